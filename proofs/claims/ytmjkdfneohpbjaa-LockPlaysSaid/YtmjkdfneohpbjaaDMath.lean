/-
  Files that forget, as plain data: what each call answers and leaves. Nothing of the program stands here.
-/
import Derived.WalkKit
import Derived.Lib.Strings
import Derived.Sort.KeysCollected
namespace Go.Proofs.Ytmjkdfneohpbjaa
open Go.RowKit

/-! ### Names and their order -/
/-- Does the one name stand ahead of the other? -/
def bef (a b : ByteArray) : Bool := Op.bytesLess a.toList b.toList
theorem less_before : ∀ (a b : List UInt8), Op.bytesLess a b = bytesBefore a b
  | [], [] => rfl
  | [], _ :: _ => rfl
  | _ :: _, [] => rfl
  | x :: a, y :: b => by simp [Op.bytesLess, bytesBefore, less_before a b]
theorem bef_eq (a b : ByteArray) : bef a b = bytesBefore a.data.toList b.data.toList := by
  unfold bef
  rw [less_before, Lib.toList_data, Lib.toList_data]
theorem name_ext {a b : ByteArray} (h : a.data.toList = b.data.toList) : a = b := WideShapes.bytes_inj h
theorem name_eq (a b : ByteArray) : (a.toList == b.toList) = decide (a = b) := by
  rw [Lib.toList_data, Lib.toList_data, Bool.eq_iff_iff, beq_iff_eq, decide_eq_true_iff]
  exact ⟨name_ext, fun h => by rw [h]⟩
theorem bef_irrefl (a : ByteArray) : bef a a = false := by rw [bef_eq]; exact WideAt.bytes_irrefl _
theorem bef_trans {a b c : ByteArray} (h : bef a b = true) (h' : bef b c = true) : bef a c = true := by
  rw [bef_eq] at *
  exact WideShapes.bytes_trans _ _ _ h h'
theorem bef_total {a b : ByteArray} (h : a ≠ b) : bef a b = true ∨ bef b a = true := by
  rw [bef_eq, bef_eq]
  exact WideAt.bytes_total _ _ (fun e => h (name_ext e))
theorem bef_ne {a b : ByteArray} (h : bef a b = true) : a ≠ b := by
  rintro rfl
  rw [bef_irrefl] at h
  cases h
theorem bef_asymm {a b : ByteArray} (h : bef a b = true) : bef b a = false := by
  cases h' : bef b a
  · rfl
  · have := bef_trans h h'
    rw [bef_irrefl] at this
    cases this
theorem before_le : ∀ (a b : List UInt8), bytesBefore a b = true → a ≤ b
  | [], _, _ => List.nil_le _
  | _ :: _, [], h => by cases h
  | x :: a, y :: b, h => by
    simp only [bytesBefore, Bool.or_eq_true, decide_eq_true_eq, Bool.and_eq_true, beq_iff_eq] at h
    rw [List.cons_le_cons_iff]
    rcases h with h | ⟨rfl, h⟩
    · exact .inl h
    · exact .inr ⟨rfl, before_le a b h⟩

/-! ### A file, a disk -/
structure Fl where
  name : ByteArray
  data : List UInt8
  lasts : Nat
structure Dst where
  room : Nat
  fs : List Fl
  fuse : Option Nat

def get (fs : List Fl) (s : ByteArray) : Option Fl := fs.find? fun f => decide (f.name = s)
def del (fs : List Fl) (s : ByteArray) : List Fl := fs.filter fun f => !decide (f.name = s)
def ins (f : Fl) : List Fl → List Fl
  | [] => [f]
  | g :: r => if bef f.name g.name then f :: g :: r else g :: ins f r
def upd (fs : List Fl) (s : ByteArray) (h : Fl → Fl) : List Fl := fs.map fun f => if f.name = s then h f else f
def used : List Fl → Nat
  | [] => 0
  | f :: r => f.data.length + used r
def okName (s : ByteArray) : Bool := decide (1 ≤ s.size ∧ s.size ≤ 64)
/-- The error that each of the five has ahead of all others. -/
def errB (S : Dst) (ss : List ByteArray) : Nat := if S.fuse = some 0 then 9 else if ss.all okName then 0 else 1
def tick (S : Dst) : Dst := { S with fuse := S.fuse.map (· - 1) }
def errA (S : Dst) (s : ByteArray) (p : List UInt8) : Nat :=
  if errB S [s] ≠ 0 then errB S [s] else if S.room < used S.fs + p.length ∨ (get S.fs s = none ∧ 4096 ≤ S.fs.length) then 6 else 0
def doA (S : Dst) (s : ByteArray) (p : List UInt8) : Dst :=
  tick { S with fs := match get S.fs s with | none => ins ⟨s, p, 0⟩ S.fs | some _ => upd S.fs s fun f => { f with data := f.data ++ p } }
/-- Append: what it answers, what it leaves. -/
def appendS (S : Dst) (s : ByteArray) (p : List UInt8) : Dst := if errA S s p = 0 then doA S s p else S
def errF (S : Dst) (s : ByteArray) : Nat := if errB S [s] ≠ 0 then errB S [s] else if get S.fs s = none then 7 else 0
def synced (f : Fl) : Fl := { f with lasts := f.data.length }
def syncS (S : Dst) (s : ByteArray) : Dst := if errF S s = 0 then tick { S with fs := upd S.fs s synced } else S
def removeS (S : Dst) (s : ByteArray) : Dst := if errF S s = 0 then tick { S with fs := del S.fs s } else S
def errT (S : Dst) (s : ByteArray) (n : Int) : Nat :=
  if errF S s ≠ 0 then errF S s else match get S.fs s with | none => 7 | some f => if n < 0 ∨ (f.data.length : Int) < n then 1 else 0
def cutF (n : Nat) (f : Fl) : Fl := { f with data := f.data.take n, lasts := min f.lasts n }
def truncS (S : Dst) (s : ByteArray) (n : Int) : Dst := if errT S s n = 0 then tick { S with fs := upd S.fs s (cutF n.toNat) } else S
def errR (S : Dst) (a b : ByteArray) : Nat := if errB S [a, b] ≠ 0 then errB S [a, b] else if get S.fs a = none then 7 else 0
def moved (fs : List Fl) (a b : ByteArray) : List Fl :=
  match get fs a with
  | none => fs
  | some f => if a = b then fs else ins { f with name := b } (del (del fs b) a)
def renameS (S : Dst) (a b : ByteArray) : Dst := if errR S a b = 0 then tick { S with fs := moved S.fs a b } else S
def fuseS (S : Dst) (n : Int) : Dst := { S with fuse := if n < 0 then none else some n.toNat }
/-- How much of a file stays behind a crash. -/
def stay (draw : Int) (f : Fl) : Nat := f.lasts + (max draw 0).toNat % (f.data.length - f.lasts + 1)
def crashF (draw : Int) (f : Fl) : Fl := { f with data := f.data.take (stay draw f), lasts := stay draw f }
def crashS (S : Dst) (draw : Int) : Dst := { S with fs := S.fs.map (crashF draw), fuse := none }
def copyS (S : Dst) : Dst := { S with fuse := none }
def readD (S : Dst) (s : ByteArray) : List UInt8 := match get S.fs s with | none => [] | some f => f.data
def readE (S : Dst) (s : ByteArray) : Nat := match get S.fs s with | none => 7 | some _ => 0
/-- Several names, one behind the other, up to the first that errs. -/
def eachE (err : Dst → ByteArray → Nat) (next : Dst → ByteArray → Dst) : Dst → List ByteArray → Nat
  | _, [] => 0
  | S, s :: r => if err S s = 0 then eachE err next (next S s) r else err S s
def eachS (err : Dst → ByteArray → Nat) (next : Dst → ByteArray → Dst) : Dst → List ByteArray → Dst
  | S, [] => S
  | S, s :: r => if err S s = 0 then eachS err next (next S s) r else S

/-- What is always so. -/
structure Good (fs : List Fl) : Prop where
  rise : fs.Pairwise fun f g => bef f.name g.name = true
  len : fs.length ≤ 4096
  names : ∀ f ∈ fs, f.name.size ≤ 64
  lasts : ∀ f ∈ fs, f.lasts ≤ f.data.length

theorem errB_cases (S : Dst) (ss : List ByteArray) : errB S ss = 0 ∨ errB S ss = 1 ∨ errB S ss = 9 := by
  unfold errB
  split
  · exact .inr (.inr rfl)
  · split
    · exact .inl rfl
    · exact .inr (.inl rfl)

/-! ### lists of files -/
section
variable {fs : List Fl} {s : ByteArray} {f : Fl}
theorem get_some (h : get fs s = some f) : f ∈ fs ∧ f.name = s := ⟨List.mem_of_find?_eq_some h, by have := List.find?_some h; simpa using this⟩
theorem get_none : get fs s = none ↔ ∀ f ∈ fs, f.name ≠ s := by unfold get; simp
theorem rise_ne (h : fs.Pairwise fun f g => bef f.name g.name = true) : fs.Pairwise fun f g => f.name ≠ g.name := h.imp fun h => bef_ne h
theorem get_of_mem (h : fs.Pairwise fun f g => bef f.name g.name = true) (hf : f ∈ fs) : get fs f.name = some f := by
  induction fs with
  | nil => cases hf
  | cons g r ih =>
    obtain ⟨h1, h2⟩ := List.pairwise_cons.1 h
    unfold get
    rw [List.find?_cons]
    rcases List.mem_cons.1 hf with rfl | hm
    · simp
    · have : decide (g.name = f.name) = false := by rw [decide_eq_false_iff_not]; exact bef_ne (h1 f hm)
      rw [this]
      exact ih h2 hm
theorem used_append : ∀ (a b : List Fl), used (a ++ b) = used a + used b
  | [], b => by simp [used]
  | f :: a, b => by simp only [List.cons_append, used, used_append a b]; omega
theorem used_le (h : f ∈ fs) : f.data.length ≤ used fs := by
  induction fs with
  | nil => cases h
  | cons g r ih =>
    simp only [used]
    rcases List.mem_cons.1 h with rfl | hm
    · omega
    · have := ih hm; omega
theorem used_ins (f : Fl) : ∀ fs : List Fl, used (ins f fs) = f.data.length + used fs
  | [] => rfl
  | g :: r => by
    unfold ins
    split
    · rfl
    · simp only [used, used_ins f r]; omega
theorem mem_ins {g : Fl} : ∀ {fs : List Fl}, g ∈ ins f fs ↔ g = f ∨ g ∈ fs
  | [] => by simp [ins]
  | h :: r => by
    unfold ins
    split
    · simp
    · simp only [List.mem_cons, mem_ins (fs := r)]
      constructor
      · rintro (h | h | h)
        · exact .inr (.inl h)
        · exact .inl h
        · exact .inr (.inr h)
      · rintro (h | h | h)
        · exact .inr (.inl h)
        · exact .inl h
        · exact .inr (.inr h)
theorem length_ins (f : Fl) : ∀ fs : List Fl, (ins f fs).length = fs.length + 1
  | [] => rfl
  | g :: r => by
    unfold ins
    split
    · rfl
    · simp [length_ins f r]
theorem rise_ins : ∀ {fs : List Fl}, fs.Pairwise (fun f g => bef f.name g.name = true) → (∀ g ∈ fs, g.name ≠ f.name) → (ins f fs).Pairwise fun f g => bef f.name g.name = true
  | [], _, _ => by simp [ins]
  | g :: r, h, hn => by
    obtain ⟨h1, h2⟩ := List.pairwise_cons.1 h
    unfold ins
    split
    · rename_i hb
      refine List.pairwise_cons.2 ⟨fun x hx => ?_, h⟩
      rcases List.mem_cons.1 hx with rfl | hx
      · exact hb
      · exact bef_trans hb (h1 x hx)
    · rename_i hb
      refine List.pairwise_cons.2 ⟨fun x hx => ?_, rise_ins h2 fun x hx => hn x (by simp [hx])⟩
      rcases mem_ins.1 hx with rfl | hx
      · rcases bef_total (hn g (by simp)) with h' | h'
        · exact h'
        · exact absurd h' hb
      · exact h1 x hx
theorem mem_del {g : Fl} : g ∈ del fs s ↔ g ∈ fs ∧ g.name ≠ s := by unfold del; simp
theorem used_del (h : fs.Pairwise fun f g => bef f.name g.name = true) (hf : get fs s = some f) : used (del fs s) + f.data.length = used fs := by
  induction fs with
  | nil => cases hf
  | cons g r ih =>
    obtain ⟨h1, h2⟩ := List.pairwise_cons.1 h
    unfold get at hf
    rw [List.find?_cons] at hf
    by_cases e : g.name = s
    · simp only [e, decide_true] at hf
      injection hf with hf
      subst hf
      have hr : del r s = r := by
        unfold del
        rw [List.filter_eq_self]
        intro x hx
        have : x.name ≠ s := by rw [← e]; exact (bef_ne (h1 x hx)).symm
        simp [this]
      have : del (g :: r) s = r := by
        unfold del at hr ⊢
        rw [List.filter_cons]
        simp [e, hr]
      rw [this]
      simp only [used]
      omega
    · simp only [e, decide_false] at hf
      have hd : del (g :: r) s = g :: del r s := by
        unfold del
        rw [List.filter_cons]
        simp [e]
      have := ih h2 hf
      rw [hd]
      simp only [used]
      omega
theorem del_none (h : get fs s = none) : del fs s = fs := by
  unfold del
  rw [List.filter_eq_self]
  intro x hx
  have := get_none.1 h x hx
  simp [this]
theorem upd_split {p q : List Fl} (hs : fs = p ++ f :: q) (h : fs.Pairwise fun f g => bef f.name g.name = true) (g : Fl → Fl) : upd fs f.name g = p ++ g f :: q := by
  subst hs
  have hn := rise_ne h
  rw [List.pairwise_append] at hn
  obtain ⟨_, h2, h3⟩ := hn
  obtain ⟨h4, _⟩ := List.pairwise_cons.1 h2
  unfold upd
  rw [List.map_append, List.map_cons, if_pos rfl]
  congr 1
  · conv => rhs; rw [← List.map_id p]
    exact List.map_congr_left fun x hx => if_neg (h3 x hx f (by simp))
  · congr 1
    conv => rhs; rw [← List.map_id q]
    exact List.map_congr_left fun x hx => if_neg (fun e => h4 x hx e.symm)
theorem rise_map (h : fs.Pairwise fun f g => bef f.name g.name = true) {g : Fl → Fl} (hg : ∀ f ∈ fs, (g f).name = f.name) : (fs.map g).Pairwise fun f g => bef f.name g.name = true := by
  rw [List.pairwise_map]
  exact h.imp_of_mem fun {a b} ha hb hab => by rw [hg a ha, hg b hb]; exact hab
end
end Go.Proofs.Ytmjkdfneohpbjaa
