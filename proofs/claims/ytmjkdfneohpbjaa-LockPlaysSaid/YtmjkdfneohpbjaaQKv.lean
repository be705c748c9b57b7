/-
  Maps from texts to ints, and from ints to ints: what a map holds, as rows by rising keys; what is looked up, laid in, taken out.
-/
import Derived.Test.YtmjkdfneohpbjaaSKv
import Derived.Test.YtmjkdfneohpbjaaInts
namespace Go.Proofs.Ytmjkdfneohpbjaa
open Go.RowKit Go.Maps

def isI : Value → Bool
  | .int .i64 _ => true
  | _ => false
theorem isI_inv {v : Value} (h : isI v = true) : ∃ c, v = .int .i64 c := by
  unfold isI at h
  split at h
  · exact ⟨_, rfl⟩
  · cases h
abbrev Hd := ByteArray × Int
def kvI (l : List Hd) : List Kv := l.map fun p => (p.1, .int .i64 p.2)
/-- Who has it. -/
def holdL (l : List Hd) (s : ByteArray) : Option Int := (findL Prod.fst l s).map Prod.snd
theorem find_kvI (l : List Hd) (s : ByteArray) : findL Prod.fst (kvI l) s = (findL Prod.fst l s).map fun p => (p.1, .int .i64 p.2) := findL_map _ _ (fun _ => rfl) l s
theorem put_kvI (x : Hd) (l : List Hd) : putL Prod.fst (x.1, Value.int .i64 x.2) (kvI l) = kvI (putL Prod.fst x l) := putL_map (fun p : Hd => (p.1, Value.int .i64 p.2)) Prod.fst (fun _ => rfl) x l
theorem rise_kvI {l : List Hd} (h : Rise Prod.fst (kvI l)) : Rise Prod.fst l := by
  unfold Rise kvI at h
  rw [List.pairwise_map] at h
  exact h
def HvAt (w : World) (m : Nat) (l : List Hd) : Prop := KvAt isI w m (kvI l)
def HvIs (w : World) (mb : Option Nat) (l : List Hd) : Prop := KvIs isI w mb (kvI l)
theorem HvIs.rise {w : World} {mb : Option Nat} {l : List Hd} (h : HvIs w mb l) : Rise Prod.fst l := rise_kvI (KvIs.rise h)
theorem hvis_none {w : World} {l : List Hd} (h : HvIs w none l) : l = [] := by
  have : kvI l = [] := h
  simpa [kvI] using this
/-- What a look-up answers: the value, and whether it is there. -/
theorem look_hv {t : TypeId} {w : World} {mb : Option Nat} {l : List Hd} {s : ByteArray} (ht : Try.prog.underlying t = some (.map 9 3)) (hz : ∀ w, (zeroValue 3).run Try.prog w = .ok (.int .i64 0) w) (h : HvIs w mb l) (hs : s.size ≤ maxLen) :
    (Instr.lookup t (.map mb) (.string s) true).run Try.prog w = .ok (.tuple #[.int .i64 ((holdL l s).getD 0), .bool (holdL l s).isSome]) w := by
  have hk := key_of s hs
  have hzd : heldP isI (.int .i64 0) = some (.held (.int .i64 0), []) := heldP_mk rfl
  cases mb with
  | none =>
    obtain rfl := hvis_none h
    rw [Maps.look_nil true keyed ht (hz w) hk]
    rfl
  | some m =>
    obtain ⟨v, ps, hr, hv'⟩ := World.ownsMap.look_ok (show w.ownsMap Try.prog 9 (heldP isI) m (kvI l).length (DK (kvI l)) from h) keyed ht (hz w) hzd hk
    rw [hr, has_DK, find_kvI]
    obtain ⟨h1, h2⟩ := heldP_inv hv'
    rw [atKey_DK, find_kvI] at h2
    have h3 := congrArg Prod.fst h2
    unfold holdL
    clear h2 hv' hr
    dsimp only at h3
    revert h3
    cases findL Prod.fst l s with
    | none => intro h3; have := (DataW.held.inj h3).symm; rw [this]; rfl
    | some p => intro h3; have := (DataW.held.inj h3).symm; rw [this]; rfl

theorem look_hv1 {t : TypeId} {w : World} {mb : Option Nat} {l : List Hd} {s : ByteArray} (ht : Try.prog.underlying t = some (.map 9 3)) (hz : ∀ w, (zeroValue 3).run Try.prog w = .ok (.int .i64 0) w) (h : HvIs w mb l) (hs : s.size ≤ maxLen) :
    (Instr.lookup t (.map mb) (.string s) false).run Try.prog w = .ok (.int .i64 ((holdL l s).getD 0)) w := by
  have hk := key_of s hs
  have hzd : heldP isI (.int .i64 0) = some (.held (.int .i64 0), []) := heldP_mk rfl
  cases mb with
  | none =>
    obtain rfl := hvis_none h
    rw [Maps.look_nil false keyed ht (hz w) hk]
    rfl
  | some m =>
    obtain ⟨v, ps, hr, hv'⟩ := World.ownsMap.lookup (show w.ownsMap Try.prog 9 (heldP isI) m (kvI l).length (DK (kvI l)) from h) keyed ht (hz w) hzd hk
    rw [hr]
    obtain ⟨h1, h2⟩ := heldP_inv hv'
    rw [atKey_DK, find_kvI] at h2
    have h3 := congrArg Prod.fst h2
    unfold holdL
    clear h2 hv' hr
    dsimp only at h3
    revert h3
    cases findL Prod.fst l s with
    | none => intro h3; have := (DataW.held.inj h3).symm; rw [this]; rfl
    | some p => intro h3; have := (DataW.held.inj h3).symm; rw [this]; rfl

/-! ### Ints as keys -/
abbrev Du := Int × Int
def keyI (k : Int) : Lit := .int .i64 k
def entI (p : Du) : Lit × DataW Value := (keyI p.1, .held (.int .i64 p.2))
def DI (l : List Du) : DataW Value := .map (l.map entI)
def delI (l : List Du) (k : Int) : List Du := l.filter fun p => !decide (p.1 = k)
def insI (x : Du) : List Du → List Du
  | [] => [x]
  | g :: r => if x.1 < g.1 then x :: g :: r else g :: insI x r
def putI (x : Du) (l : List Du) : List Du := insI x (delI l x.1)
def RiseI (l : List Du) : Prop := l.Pairwise fun x y => x.1 < y.1
theorem keyedI : Keyed Try.prog 3 := int_keyed Try.underlying3
theorem keyI_of (k : Int) (h : -9223372036854775808 ≤ k ∧ k ≤ 9223372036854775807) : keyOf Try.prog 3 (.int .i64 k) = some (keyI k) := keyOf_int_mk Try.underlying3 (by
  show (decide (IntKind.i64.min ≤ k) && decide (k ≤ IntKind.i64.max)) = true
  have h1 : IntKind.i64.min = -9223372036854775808 := by decide
  have h2 : IntKind.i64.max = 9223372036854775807 := by decide
  rw [h1, h2]
  simpa using h)
theorem same_keyI (a b : Int) : (keyI a).sameKey (keyI b) = decide (a = b) := by simp [keyI, Lit.sameKey]
theorem before_keyI (a b : Int) : (keyI a).before (keyI b) = decide (a < b) := rfl
theorem size_DI (l : List Du) : Maps.size (DI l) = l.length := by simp [DI, Maps.size]
theorem del_DI (l : List Du) (k : Int) : (DI l).del (keyI k) = DI (delI l k) := by
  show DataW.map ((l.map entI).filter fun p => !p.1.sameKey (keyI k)) = DataW.map ((delI l k).map entI)
  rw [List.filter_map]
  unfold delI
  congr 2
  congr 1
  funext p
  show (!(keyI p.1).sameKey (keyI k)) = _
  rw [same_keyI]
theorem insert_DI (x : Du) : ∀ l : List Du, DataW.insert (entI x) (l.map entI) = (insI x l).map entI
  | [] => rfl
  | g :: r => by
    unfold insI
    simp only [List.map_cons]
    unfold DataW.insert
    have : (entI x).1.before (entI g).1 = decide (x.1 < g.1) := before_keyI _ _
    rw [this]
    by_cases h : x.1 < g.1
    · simp [h]
    · simp only [h, decide_false, if_false]
      rw [List.map_cons, insert_DI x r]
      simp
theorem put_DI (x : Du) (l : List Du) : (DI l).put (keyI x.1) (.held (.int .i64 x.2)) = DI (putI x l) := by
  show DataW.map (DataW.insert (entI x) ((l.map entI).filter fun p => !p.1.sameKey (keyI x.1))) = _
  have hf : ((l.map entI).filter fun p => !p.1.sameKey (keyI x.1)) = (delI l x.1).map entI := by
    rw [List.filter_map]
    unfold delI
    congr 1
    congr 1
    funext p
    show (!(keyI p.1).sameKey (keyI x.1)) = _
    rw [same_keyI]
  rw [hf]
  exact congrArg DataW.map (insert_DI x _)
def IvAt (w : World) (m : Nat) (l : List Du) : Prop := w.ownsMap Try.prog 3 (heldP isI) m l.length (DI l)
def IvIs (w : World) (mb : Option Nat) (l : List Du) : Prop :=
  match mb with
  | none => l = []
  | some m => IvAt w m l
section
variable {w w' : World} {m : Nat} {mb : Option Nat} {l : List Du} {rs : List Nat}
theorem IvAt.only (h : IvAt w m l) (o : Only rs w w') (hn : m ∉ rs) : IvAt w' m l := by
  have hlt := World.ownsMap.lt h
  obtain ⟨es, clock, hb, r⟩ := h
  exact ⟨es, clock, (o.block m hlt hn).trans hb, r⟩
theorem IvIs.only (h : IvIs w mb l) (o : Only rs w w') (hn : ∀ m, mb = some m → m ∉ rs) : IvIs w' mb l := by
  cases mb with
  | none => exact h
  | some m => exact IvAt.only h o (hn m rfl)
theorem IvIs.keep (h : IvIs w mb l) (o : Only [] w w') : IvIs w' mb l := h.only o fun _ _ hm => nomatch hm
theorem IvAt.lt (h : IvAt w m l) : m < w.heap.size := World.ownsMap.lt h
theorem IvIs.lt (h : IvIs w mb l) : ∀ m, mb = some m → m < w.heap.size := by
  rintro m rfl
  exact IvAt.lt h
theorem IvAt.of {k : Nat} (h : w.ownsMap Try.prog 3 (heldP isI) m k (DI l)) : IvAt w m l := by
  obtain ⟨es, clock, hb, F, _, hD⟩ := h
  refine ⟨es, clock, hb, F, ?_, hD⟩
  rw [← size_DI l, hD]
  simp [Maps.size, length_sorted]
theorem IvAt.rise (h : IvAt w m l) : RiseI l := by
  obtain ⟨es, he, hp, _⟩ := World.ownsMap.canon h keyedI
  unfold DI at he
  injection he with he
  rw [← he, List.pairwise_map] at hp
  exact hp.imp fun {a b} h => by
    have h2 : decide (a.1 < b.1) = true := h
    exact of_decide_eq_true h2
theorem IvIs.rise (h : IvIs w mb l) : RiseI l := by
  cases mb with
  | none =>
    have : l = [] := h
    rw [this]
    exact List.Pairwise.nil
  | some m => exact IvAt.rise h
end
end Go.Proofs.Ytmjkdfneohpbjaa
