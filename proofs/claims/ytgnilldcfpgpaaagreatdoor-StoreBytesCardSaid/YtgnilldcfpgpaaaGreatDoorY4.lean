/-
  Texts of the seat, laid one behind the other: CMath VMsg Quiet VLeaf VIs VIs2.
-/
import Derived.Test.YtgnilldcfpgpaaaGreatDoorY3
import Derived.Test.YtgnilldcfpgpaaaGreatDoorY1
import Derived.Handy
import Derived.Deep.DeepMust
import Derived.WalkKit
import Derived.Lib.OthersKept
import Derived.Shelf.Abstract
import Derived.Deep.LoopGhost
import Derived.Laws.RangeAny
import Derived.Deep.QuietTactic
import Derived.BigQuiet
namespace Go.Proofs.YtgnilldcfpgpaaaGreatDoor
structure Ch where
  kind : Int
  user : List UInt8
  pass : List UInt8
  box : List UInt8
  to : List UInt8
  uids : List Int
  mode : Int
  flags : Int
  date : Int
  body : List UInt8
def ups : Int → List Int → Bool
  | _, [] => true
  | last, u :: r => decide (last < u) && decide (u ≤ 1048576) && ups u r
def uidsOk (l : List Int) : Bool := ups 0 l && decide (l.length ≤ 24)
def okp (c : UInt8) : Bool := decide (33 ≤ c.toNat) && decide (c.toNat ≤ 126)
def passOk (s : List UInt8) : Bool := decide (1 ≤ s.length) && decide (s.length ≤ 12) && s.all okp
def isC (c : Ch) : Bool :=
  decide (1 ≤ c.kind) && decide (c.kind ≤ 8) && nameL c.user && (if c.kind = 1 then passOk c.pass && decide (c.box = []) else decide (c.pass = []) && nameL c.box) &&
  (if c.kind = 4 ∨ c.kind = 8 then nameL c.to else decide (c.to = [])) && uidsOk c.uids && (decide (c.kind = 6 ∨ c.kind = 7 ∨ c.kind = 8) || decide (c.uids = [])) &&
  inR c.mode 0 2 && inR c.flags 0 31 && inR c.date 0 1073741824 && decide (c.body.length ≤ 1200) &&
  (decide (c.kind = 6) || decide (c.mode = 0)) && (decide (c.kind = 6) || decide (c.kind = 5) || decide (c.flags = 0)) && (decide (c.kind = 5) || (decide (c.date = 0) && decide (c.body = [])))
theorem ups_at : ∀ {l : List Int} {last : Int}, ups last l = true → ∀ u ∈ l, last < u ∧ u ≤ 1048576
  | [], _, _, u, hu => by cases hu
  | x :: r, last, h, u, hu => by
    simp only [ups, Bool.and_eq_true, decide_eq_true_eq] at h
    obtain ⟨⟨h1, h2⟩, h3⟩ := h
    rcases List.mem_cons.1 hu with rfl | hu
    · exact ⟨h1, h2⟩
    · have := ups_at h3 u hu
      omega
theorem nameL_len {s : List UInt8} (h : nameL s = true) : 1 ≤ s.length ∧ s.length ≤ 12 := by
  unfold nameL at h
  simp only [Bool.and_eq_true, decide_eq_true_eq] at h
  exact h.1
theorem isC_small {c : Ch} (h : isC c = true) : (1 ≤ c.kind ∧ c.kind ≤ 8) ∧ c.user.length ≤ 12 ∧ c.pass.length ≤ 12 ∧ c.box.length ≤ 12 ∧ c.to.length ≤ 12 ∧ (c.uids.length ≤ 24 ∧ ∀ u ∈ c.uids, 1 ≤ u ∧ u ≤ 1048576) ∧ (0 ≤ c.mode ∧ c.mode ≤ 2) ∧ (0 ≤ c.flags ∧ c.flags ≤ 31) ∧ (0 ≤ c.date ∧ c.date ≤ 1073741824) ∧ c.body.length ≤ 1200 := by
  unfold isC at h
  simp only [Bool.and_eq_true, decide_eq_true_eq, inR_iff] at h
  obtain ⟨⟨⟨⟨⟨⟨⟨⟨⟨⟨⟨⟨⟨h1, h2⟩, h3⟩, h4⟩, h5⟩, h6⟩, h7⟩, h8⟩, h9⟩, h10⟩, h11⟩, h12⟩, h13⟩, h14⟩ := h
  have hu := nameL_len h3
  unfold uidsOk at h6
  simp only [Bool.and_eq_true, decide_eq_true_eq] at h6
  have hpb : c.pass.length ≤ 12 ∧ c.box.length ≤ 12 := by
    split at h4
    · simp only [Bool.and_eq_true, decide_eq_true_eq] at h4
      have hp := h4.1
      unfold passOk at hp
      simp only [Bool.and_eq_true, decide_eq_true_eq] at hp
      rw [h4.2]
      simp
      omega
    · simp only [Bool.and_eq_true, decide_eq_true_eq] at h4
      have hb := nameL_len h4.2
      rw [h4.1]
      simp
      omega
  have ht : c.to.length ≤ 12 := by
    split at h5
    · have := nameL_len h5
      omega
    · simp only [decide_eq_true_eq] at h5
      rw [h5]
      simp
  exact ⟨⟨h1, h2⟩, hu.2, hpb.1, hpb.2, ht, ⟨h6.2, fun u hu => by have := ups_at h6.1 u hu; omega⟩, h8, h9, h10, h11⟩
def encC (c : Ch) : List UInt8 := enc (clamp c.kind) ++ rowEnc c.user ++ rowEnc c.pass ++ rowEnc c.box ++ rowEnc c.to ++ enc (clamp (c.uids.length : Int)) ++ encs c.uids ++ encs [c.mode, c.flags, c.date] ++ rowEnc c.body
def takeU : Nat → RS → List Int
  | 0, _ => []
  | k + 1, s => if s.1 then [] else tv s :: takeU k (tk s)
def restU : Nat → RS → RS
  | 0, s => s
  | k + 1, s => if s.1 then s else restU k (tk s)
theorem restU_bad : ∀ {k : Nat} {s : RS}, (restU k s).1 = false → s.1 = false
  | 0, _, h => h
  | k + 1, s, h => by
    cases e : s.1
    · rfl
    · unfold restU at h; rw [e, if_pos rfl, e] at h; cases h
theorem takeU_len : ∀ {k : Nat} {s : RS}, (restU k s).1 = false → (takeU k s).length = k
  | 0, _, _ => rfl
  | k + 1, s, h => by
    have hs := restU_bad h
    unfold restU at h
    unfold takeU
    rw [hs] at h ⊢
    simp only [Bool.false_eq_true, if_false] at h ⊢
    rw [List.length_cons, takeU_len h]
theorem takeU_succ : ∀ (k : Nat) (s : RS), (restU k s).1 = false → takeU (k + 1) s = takeU k s ++ [tv (restU k s)] ∧ restU (k + 1) s = tk (restU k s)
  | 0, s, h => by
    have hs : s.1 = false := h
    simp [takeU, restU, hs]
  | k + 1, s, h => by
    have hs := restU_bad h
    have h' : (restU k (tk s)).1 = false := by
      unfold restU at h
      rw [hs] at h
      simpa using h
    obtain ⟨a, b⟩ := takeU_succ k (tk s) h'
    have e1 : takeU (k + 1 + 1) s = tv s :: takeU (k + 1) (tk s) := by rw [takeU, hs]; rfl
    have e2 : takeU (k + 1) s = tv s :: takeU k (tk s) := by rw [takeU, hs]; rfl
    have e3 : restU (k + 1) s = restU k (tk s) := by rw [restU, hs]; rfl
    have e4 : restU (k + 1 + 1) s = restU (k + 1) (tk s) := by rw [restU, hs]; rfl
    exact ⟨by rw [e1, a, e2, e3]; rfl, by rw [e4, b, e3]⟩
theorem restU_stuck : ∀ (k j : Nat) (s : RS), (restU k s).1 = true → (restU (k + j) s).1 = true
  | 0, 0, _, h => h
  | 0, j + 1, s, h => by
    have hs : s.1 = true := h
    rw [Nat.zero_add, restU, hs]
    exact hs
  | k + 1, j, s, h => by
    rw [show k + 1 + j = k + j + 1 by omega]
    cases hs : s.1
    · have e3 : restU (k + 1) s = restU k (tk s) := by rw [restU, hs]; rfl
      have e4 : restU (k + j + 1) s = restU (k + j) (tk s) := by rw [restU, hs]; rfl
      rw [e4]
      rw [e3] at h
      exact restU_stuck k j (tk s) h
    · rw [restU, hs]
      exact hs
theorem restU_form : ∀ {k : Nat} {s : RS}, (restU k s).1 = false → s.2 = encs (takeU k s) ++ (restU k s).2
  | 0, _, _ => rfl
  | k + 1, s, h => by
    have hs := restU_bad h
    unfold restU at h ⊢
    unfold takeU
    rw [hs] at h ⊢
    simp only [Bool.false_eq_true, if_false] at h ⊢
    have e1 := tk_form (restU_bad h)
    have e2 := restU_form h
    rw [show encs (tv s :: takeU k (tk s)) = enc (clamp (tv s)) ++ encs (takeU k (tk s)) by simp [encs], List.append_assoc, ← e2]
    exact e1
def cs1 (p : List UInt8) : RS := tk (false, p)
def cs2 (p : List UInt8) : RS := rk (cs1 p)
def cs3 (p : List UInt8) : RS := rk (cs2 p)
def cs4 (p : List UInt8) : RS := rk (cs3 p)
def cs5 (p : List UInt8) : RS := rk (cs4 p)
def ccnt (p : List UInt8) : Int := tv (cs5 p)
def cs6 (p : List UInt8) : RS := tk (cs5 p)
def cs7 (p : List UInt8) (k : Nat) : RS := restU k (cs6 p)
def cs8 (p : List UInt8) (k : Nat) : RS := tk (cs7 p k)
def cs9 (p : List UInt8) (k : Nat) : RS := tk (cs8 p k)
def cs10 (p : List UInt8) (k : Nat) : RS := tk (cs9 p k)
def cs11 (p : List UInt8) (k : Nat) : RS := rk (cs10 p k)
def chOf (p : List UInt8) (k : Nat) : Ch := ⟨tv (false, p), rv (cs1 p), rv (cs2 p), rv (cs3 p), rv (cs4 p), takeU k (cs6 p), tv (cs7 p k), tv (cs8 p k), tv (cs9 p k), rv (cs10 p k)⟩
def chO (p : List UInt8) : Option Ch :=
  if 24 < ccnt p then none else if wholeS (cs11 p (ccnt p).toNat) && isC (chOf p (ccnt p).toNat) then some (chOf p (ccnt p).toNat) else none
theorem chOf_form {p : List UInt8} {k : Nat} (hk : ccnt p = (k : Int)) (h : wholeS (cs11 p k) = true) : p = encC (chOf p k) := by
  unfold wholeS at h
  simp only [Bool.and_eq_true, Bool.not_eq_true', decide_eq_true_eq] at h
  obtain ⟨h11, h2⟩ := h
  have e10 := rk_form h11
  have h10 := rk_bad (s := cs10 p k) h11
  have e9 := tk_form h10
  have h9 := tk_bad (s := cs9 p k) h10
  have e8 := tk_form h9
  have h8 := tk_bad (s := cs8 p k) h9
  have e7 := tk_form h8
  have h7 := tk_bad (s := cs7 p k) h8
  have e6 := restU_form h7
  have hl := takeU_len h7
  have h6 := restU_bad (s := cs6 p) h7
  have e5 := tk_form h6
  have h5 := tk_bad (s := cs5 p) h6
  have e4 := rk_form h5
  have h4 := rk_bad (s := cs4 p) h5
  have e3 := rk_form h4
  have h3 := rk_bad (s := cs3 p) h4
  have e2 := rk_form h3
  have h2' := rk_bad (s := cs2 p) h3
  have e1 := rk_form h2'
  have h1 := rk_bad (s := cs1 p) h2'
  have e0 := tk_form h1
  change (cs11 p k).2 = [] at h2
  unfold encC chOf
  simp only
  rw [hl, encs3, ← hk]
  simp only [List.append_assoc]
  show p = enc (clamp (tv (false, p))) ++ (rowEnc (rv (cs1 p)) ++ (rowEnc (rv (cs2 p)) ++ (rowEnc (rv (cs3 p)) ++ (rowEnc (rv (cs4 p)) ++ (enc (clamp (tv (cs5 p))) ++ (encs (takeU k (cs6 p)) ++ (enc (clamp (tv (cs7 p k))) ++ (enc (clamp (tv (cs8 p k))) ++ (enc (clamp (tv (cs9 p k))) ++ rowEnc (rv (cs10 p k)))))))))))
  have t10 : (cs10 p k).2 = rowEnc (rv (cs10 p k)) := by
    have : (rk (cs10 p k)).2 = [] := h2
    rw [this, List.append_nil] at e10
    exact e10
  rw [← t10]
  rw [show (cs10 p k).2 = (tk (cs9 p k)).2 from rfl, ← e9, show (cs9 p k).2 = (tk (cs8 p k)).2 from rfl, ← e8, show (cs8 p k).2 = (tk (cs7 p k)).2 from rfl, ← e7, show (cs7 p k).2 = (restU k (cs6 p)).2 from rfl, ← e6, show (cs6 p).2 = (tk (cs5 p)).2 from rfl, ← e5,
    show (cs5 p).2 = (rk (cs4 p)).2 from rfl, ← e4, show (cs4 p).2 = (rk (cs3 p)).2 from rfl, ← e3, show (cs3 p).2 = (rk (cs2 p)).2 from rfl, ← e2, show (cs2 p).2 = (rk (cs1 p)).2 from rfl, ← e1, show (cs1 p).2 = (tk (false, p)).2 from rfl, ← e0]
theorem chO_ref {p : List UInt8} {k : Nat} (hk : (k : Int) ≤ ccnt p) (hk2 : k ≤ 25) (hr : (k : Int) = ccnt p ∨ (cs7 p k).1 = true ∨ k = 25) (hlen : (takeU k (cs6 p)).length = k) :
    (wholeS (cs11 p k) = true ∧ isC (chOf p k) = true ∧ chO p = some (chOf p k) ∧ encC (chOf p k) = p) ∨ ((wholeS (cs11 p k) = false ∨ isC (chOf p k) = false) ∧ chO p = none) := by
  have bad7 : ∀ j, (cs7 p j).1 = true → wholeS (cs11 p j) = false := fun j hb => by
    have h11 : (cs11 p j).1 = true := by
      cases e : (cs11 p j).1 with
      | true => rfl
      | false =>
        have h7 := tk_bad (s := cs7 p j) (tk_bad (s := cs8 p j) (tk_bad (s := cs9 p j) (rk_bad (s := cs10 p j) e)))
        rw [hb] at h7
        cases h7
    unfold wholeS
    rw [h11]
    rfl
  cases hb : (cs7 p k).1 with
  | true =>
    refine .inr ⟨.inl (bad7 k hb), ?_⟩
    unfold chO
    split
    · rfl
    · have e : (ccnt p).toNat = k + ((ccnt p).toNat - k) := by omega
      have := restU_stuck k ((ccnt p).toNat - k) (cs6 p) hb
      rw [← e] at this
      rw [bad7 _ this]
      rfl
  | false =>
    by_cases hc : ccnt p ≤ 24
    · have hkc : (k : Int) = ccnt p := by
        rcases hr with h | h | h
        · exact h
        · rw [hb] at h; cases h
        · omega
      have hd : chO p = if wholeS (cs11 p k) && isC (chOf p k) then some (chOf p k) else none := by
        unfold chO
        rw [if_neg (by omega), ← hkc, Int.toNat_natCast]
      cases hw : wholeS (cs11 p k) with
      | false => exact .inr ⟨.inl rfl, by rw [hd, hw]; rfl⟩
      | true =>
        cases hi : isC (chOf p k) with
        | false => exact .inr ⟨.inr rfl, by rw [hd, hw, hi]; rfl⟩
        | true => exact .inl ⟨rfl, rfl, by rw [hd, hw, hi]; rfl, (chOf_form hkc.symm hw).symm⟩
    · have hk25 : k = 25 := by
        rcases hr with h | h | h
        · omega
        · rw [hb] at h; cases h
        · exact h
      refine .inr ⟨.inr ?_, by unfold chO; rw [if_pos (by omega)]⟩
      cases hi : isC (chOf p k) with
      | false => rfl
      | true =>
        have := (isC_small hi).2.2.2.2.2.1.1
        have h24 : (takeU k (cs6 p)).length ≤ 24 := this
        omega
end Go.Proofs.YtgnilldcfpgpaaaGreatDoor
namespace Go.Proofs.YtgnilldcfpgpaaaGreatDoor
open Go.RowKit Go.Instr
def MX (S : Nat → Prop) (w : World) (xs : List Value) (l : List Mg) : Prop :=
  ∀ (k : Nat) (m : Mg), l[k]? = some m → ∃ Ab cb, xs[k * 4]? = some (.int .i64 m.uid) ∧ xs[k * 4 + 1]? = some (.int .i64 m.flags) ∧ xs[k * 4 + 2]? = some (.int .i64 m.date) ∧ xs[k * 4 + 3]? = some (.slice Ab m.body.length cb) ∧
    Sl w Ab m.body.length (bvs m.body) ∧ (0 < m.body.length → ∀ ad, Ab = some ad → S ad.block)
def Ms (S : Nat → Prop) (w : World) (A : Option Addr) (n : Nat) (l : List Mg) : Prop :=
  l.length = n ∧ ∃ xs : List Value, xs.length = n * 4 ∧ (0 < n → ∃ ad, A = some ad ∧ S ad.block ∧ ∀ j u, xs[j]? = some u → w.cell? (ad.add j) = some u) ∧ MX S w xs l
structure MgAt (S : Nat → Prop) (w : World) (p : Addr) (m : Mg) (Ab : Option Addr) (cb : Nat) : Prop where
  c0 : w.cell? p = some (.int .i64 m.uid)
  c1 : w.cell? ⟨p.block, p.off + 1, none⟩ = some (.int .i64 m.flags)
  c2 : w.cell? ⟨p.block, p.off + 2, none⟩ = some (.int .i64 m.date)
  c3 : w.cell? ⟨p.block, p.off + 3, none⟩ = some (.slice Ab m.body.length cb)
  sl : Sl w Ab m.body.length (bvs m.body)
  st : 0 < m.body.length → ∀ ad, Ab = some ad → S ad.block
section
variable {S S' : Nat → Prop} {w w' : World} {A : Option Addr} {n c : Nat} {l : List Mg} {rs : List Nat} {xs : List Value}
theorem MX.nil (S : Nat → Prop) (w : World) (xs : List Value) : MX S w xs [] := fun k m h => by simp at h
theorem MX.mono (h : MX S w xs l) (hs : ∀ x, S x → S' x) : MX S' w xs l := fun k m hm => by
  obtain ⟨Ab, cb, h0, h1, h2, h3, h4, h5⟩ := h k m hm
  exact ⟨Ab, cb, h0, h1, h2, h3, h4, fun hp ad e => hs _ (h5 hp ad e)⟩
theorem MX.only (h : MX S w xs l) (o : Only rs w w') (hd : ∀ x, S x → x ∉ rs) : MX S w' xs l := fun k m hm => by
  obtain ⟨Ab, cb, h0, h1, h2, h3, h4, h5⟩ := h k m hm
  exact ⟨Ab, cb, h0, h1, h2, h3, h4.only' o (fun hp ad e => hd _ (h5 hp ad e)), h5⟩
theorem MX.lt (h : MX S w xs l) : MX (fun x => S x ∧ x < w.heap.size) w xs l := fun k m hm => by
  obtain ⟨Ab, cb, h0, h1, h2, h3, h4, h5⟩ := h k m hm
  exact ⟨Ab, cb, h0, h1, h2, h3, h4, fun hp ad e => ⟨h5 hp ad e, h4.lt hp ad e⟩⟩
theorem MX.append {ys : List Value} {m : List Mg} (h : MX S w xs l) (h2 : MX S w ys m) (hx : xs.length = l.length * 4) : MX S w (xs ++ ys) (l ++ m) := fun k q hq => by
  rcases Nat.lt_or_ge k l.length with hk | hk
  · rw [List.getElem?_append_left hk] at hq
    obtain ⟨Ab, cb, e0, e1, e2, e3, r⟩ := h k q hq
    exact ⟨Ab, cb, by rw [List.getElem?_append_left (by omega)]; exact e0, by rw [List.getElem?_append_left (by omega)]; exact e1, by rw [List.getElem?_append_left (by omega)]; exact e2, by rw [List.getElem?_append_left (by omega)]; exact e3, r⟩
  · rw [List.getElem?_append_right hk] at hq
    obtain ⟨Ab, cb, e0, e1, e2, e3, r⟩ := h2 (k - l.length) q hq
    refine ⟨Ab, cb, ?_, ?_, ?_, ?_, r⟩
    · rw [List.getElem?_append_right (by omega), show k * 4 - xs.length = (k - l.length) * 4 by omega]; exact e0
    · rw [List.getElem?_append_right (by omega), show k * 4 + 1 - xs.length = (k - l.length) * 4 + 1 by omega]; exact e1
    · rw [List.getElem?_append_right (by omega), show k * 4 + 2 - xs.length = (k - l.length) * 4 + 2 by omega]; exact e2
    · rw [List.getElem?_append_right (by omega), show k * 4 + 3 - xs.length = (k - l.length) * 4 + 3 by omega]; exact e3
theorem Ms.nil (S : Nat → Prop) (w : World) (A : Option Addr) : Ms S w A 0 [] := ⟨rfl, [], rfl, fun h => absurd h (by omega), MX.nil _ _ _⟩
theorem Ms.len (h : Ms S w A n l) : l.length = n := h.1
theorem Ms.mono (h : Ms S w A n l) (hs : ∀ x, S x → S' x) : Ms S' w A n l := by
  obtain ⟨h1, xs, h2, h3, h4⟩ := h
  exact ⟨h1, xs, h2, fun hn => by obtain ⟨ad, e, h5, h6⟩ := h3 hn; exact ⟨ad, e, hs _ h5, h6⟩, h4.mono hs⟩
theorem Ms.only (h : Ms S w A n l) (o : Only rs w w') (hd : ∀ x, S x → x ∉ rs) : Ms S w' A n l := by
  obtain ⟨h1, xs, h2, h3, h4⟩ := h
  exact ⟨h1, xs, h2, fun hn => by
    obtain ⟨ad, e, h5, h6⟩ := h3 hn
    exact ⟨ad, e, h5, fun j u hu => o.cellSome (h6 j u hu) (by rw [add_block]; exact hd _ h5)⟩, h4.only o hd⟩
theorem Ms.keep (h : Ms S w A n l) (o : Only [] w w') : Ms S w' A n l := h.only o (fun _ _ hm => nomatch hm)
theorem Ms.lt (h : Ms S w A n l) : Ms (fun x => S x ∧ x < w.heap.size) w A n l := by
  obtain ⟨h1, xs, h2, h3, h4⟩ := h
  refine ⟨h1, xs, h2, fun hn => ?_, h4.lt⟩
  obtain ⟨ad, e, h5, h6⟩ := h3 hn
  have := block_lt_of_cell (h6 0 (xs[0]'(by omega)) (List.getElem?_eq_getElem _))
  rw [add_block] at this
  exact ⟨ad, e, ⟨h5, this⟩, h6⟩
theorem add_field (ad : Addr) (i k : Nat) : (⟨(ad.add i).block, (ad.add i).off + (k + 1), none⟩ : Addr) = ad.add (i + (k + 1)) := by
  rw [← add_add]
  rfl
theorem Ms.at_ (h : Ms S w A n l) {k : Nat} (hk : k < n) (hk' : k < l.length) : ∃ ad Ab cb, A = some ad ∧ S ad.block ∧ MgAt S w (ad.add (k * 4)) l[k] Ab cb := by
  obtain ⟨h1, xs, h2, h3, h4⟩ := h
  obtain ⟨ad, e, h5, h6⟩ := h3 (by omega)
  obtain ⟨Ab, cb, e0, e1, e2, e3, e4, e5⟩ := h4 k l[k] (List.getElem?_eq_getElem hk')
  exact ⟨ad, Ab, cb, e, h5, h6 _ _ e0, by rw [add_field]; exact h6 _ _ e1, by rw [add_field]; exact h6 _ _ e2, by rw [add_field]; exact h6 _ _ e3, e4, e5⟩
theorem Ms.of_bk {g : Nat} {t : TypeId} {m : Mg} {Ab : Option Addr} {cb : Nat} (h : Bk w g t #[.int .i64 m.uid, .int .i64 m.flags, .int .i64 m.date, .slice Ab m.body.length cb]) (hg : S g) (hs : Sl w Ab m.body.length (bvs m.body)) (hS : 0 < m.body.length → ∀ ad, Ab = some ad → S ad.block) : Ms S w (some ⟨g, 0, none⟩) 1 [m] :=
  ⟨rfl, [.int .i64 m.uid, .int .i64 m.flags, .int .i64 m.date, .slice Ab m.body.length cb], rfl, fun _ => ⟨_, rfl, hg, fun j u hu => by rw [add_none, Nat.zero_add, h.cell]; simpa using hu⟩, fun k q hq => by
    match k, hq with
    | 0, hq =>
      simp at hq
      subst hq
      exact ⟨Ab, cb, rfl, rfl, rfl, rfl, hs, hS⟩⟩
theorem MX.set {k : Nat} {m : Mg} (h : MX S w xs l) (hk : k < l.length) {ys : List Value} (hy : ∀ j, j / 4 ≠ k → ys[j]? = xs[j]?)
    (Ab : Option Addr) (cb : Nat) (e0 : ys[k * 4]? = some (.int .i64 m.uid)) (e1 : ys[k * 4 + 1]? = some (.int .i64 m.flags)) (e2 : ys[k * 4 + 2]? = some (.int .i64 m.date)) (e3 : ys[k * 4 + 3]? = some (.slice Ab m.body.length cb))
    (hs : Sl w Ab m.body.length (bvs m.body)) (hS : 0 < m.body.length → ∀ ad, Ab = some ad → S ad.block) : MX S w ys (l.set k m) := fun i q hq => by
  rcases Nat.decEq i k with hne | rfl
  · rw [List.getElem?_set_ne (by omega)] at hq
    obtain ⟨A1, c1, f0, f1, f2, f3, r⟩ := h i q hq
    exact ⟨A1, c1, by rw [hy _ (by omega)]; exact f0, by rw [hy _ (by omega)]; exact f1, by rw [hy _ (by omega)]; exact f2, by rw [hy _ (by omega)]; exact f3, r⟩
  · rw [List.getElem?_set_self hk] at hq
    injection hq with hq
    subst hq
    exact ⟨Ab, cb, e0, e1, e2, e3, hs, hS⟩
def Mo (S : Nat → Prop) (w : World) (A : Option Addr) (n c : Nat) (l : List Mg) : Prop :=
  l.length = n ∧ (∀ x ∈ blks A, S x) ∧ ∃ xs, w.ownsRow 0 82 4 (.slice A n c) n xs ∧ MX (fun x => S x ∧ x ∉ blks A) w xs l
theorem Mo.nil (S : Nat → Prop) (w : World) : Mo S w none 0 0 [] := ⟨rfl, (fun _ h => nomatch h), [], ⟨rfl, .inl ⟨rfl, rfl⟩⟩, MX.nil _ _ _⟩
theorem Mo.empty (w : World) (hS : S w.heap.size) : Mo S (w.alloc (.cells #[] 82)) (some ⟨w.heap.size, 0, none⟩) 0 0 [] :=
  ⟨rfl, fun x hx => by simp at hx; subst hx; exact hS, [], ⟨rfl, .inr ⟨w.heap.size, 0, #[], rfl, Nat.zero_le _, heap_alloc_new w _, Nat.le_refl _, Nat.zero_le _, rfl, rfl⟩⟩, MX.nil _ _ _⟩
theorem Mo.len (h : Mo S w A n c l) : l.length = n := h.1
theorem own4_only {xs : List Value} (h : w.ownsRow 0 82 4 (.slice A n c) n xs) (o : Only rs w w') (hd : ∀ x ∈ blks A, x ∉ rs) : w'.ownsRow 0 82 4 (.slice A n c) n xs :=
  own_only h o (fun k hk => hd k (by
    cases A with
    | none => cases hk
    | some a => simp [Value.ownBlock] at hk; simp [hk]))
theorem Mo.only (h : Mo S w A n c l) (o : Only rs w w') (hd : ∀ x, S x → x ∉ rs) : Mo S w' A n c l := by
  obtain ⟨h1, h2, xs, h3, h4⟩ := h
  exact ⟨h1, h2, xs, own4_only h3 o (fun x hx => hd x (h2 x hx)), h4.only o (fun x hx => hd x hx.1)⟩
theorem Mo.keep (h : Mo S w A n c l) (o : Only [] w w') : Mo S w' A n c l := h.only o (fun _ _ hm => nomatch hm)
theorem Mo.mono (h : Mo S w A n c l) (hs : ∀ x, S x → S' x) : Mo S' w A n c l := by
  obtain ⟨h1, h2, xs, h3, h4⟩ := h
  exact ⟨h1, fun x hx => hs x (h2 x hx), xs, h3, h4.mono (fun x hx => ⟨hs x hx.1, hx.2⟩)⟩
theorem Mo.bk (h : Mo S w A n c l) {k : Nat} (hk : k ∈ blks A) : ∃ cur, Bk w k 82 cur := by
  obtain ⟨h1, h2, xs, h3, h4⟩ := h
  refine own_bk h3 ?_
  cases A with
  | none => cases hk
  | some a => simp at hk; simp [Value.ownBlock, hk]
theorem Mo.lt (h : Mo S w A n c l) {k : Nat} (hk : k ∈ blks A) : k < w.heap.size := by
  obtain ⟨cur, hc⟩ := h.bk hk
  exact hc.lt
theorem Mo.form (h : Mo S w A n c l) (hn : 0 < n) : ∃ g, A = some ⟨g, 0, none⟩ := by
  obtain ⟨h1, h2, xs, h3, h4⟩ := h
  obtain ⟨g, cap, hv, _, _⟩ := h3.form hn
  exact ⟨g, by injection hv⟩
theorem Mo.ms (h : Mo S w A n c l) : Ms S w A n l := by
  obtain ⟨h1, h2, xs, h3, h4⟩ := h
  refine ⟨h1, xs, h3.1, fun hn => ?_, h4.mono (fun _ hx => hx.1)⟩
  obtain ⟨g, cap, hv, _, _⟩ := h3.form hn
  have hA : A = some ⟨g, 0, none⟩ := by injection hv
  subst hA
  exact ⟨_, rfl, h2 _ (by simp), h3.cells (g := g) rfl⟩
theorem Mo.apart (h : Mo S w A n c l) {ad : Addr} (hA : A = some ad) {k : Nat} (hk : k < l.length) : ∃ Ab cb, MgAt (fun x => S x ∧ x ≠ ad.block) w (ad.add (k * 4)) l[k] Ab cb ∧ w.frozen? (ad.add (k * 4)) = false ∧ w.frozen? ⟨(ad.add (k * 4)).block, (ad.add (k * 4)).off + 1, none⟩ = false ∧ w.frozen? ⟨(ad.add (k * 4)).block, (ad.add (k * 4)).off + 3, none⟩ = false := by
  obtain ⟨h1, h2, xs, h3, h4⟩ := h
  obtain ⟨g, cap, hv, _, _⟩ := h3.form (by omega)
  have hA' : A = some ⟨g, 0, none⟩ := by injection hv
  subst hA'
  injection hA with hA
  subst hA
  have h6 := h3.cells (g := g) rfl
  obtain ⟨Ab, cb, e0, e1, e2, e3, e4, e5⟩ := h4 k l[k] (List.getElem?_eq_getElem hk)
  refine ⟨Ab, cb, ⟨h6 _ _ e0, by rw [add_field]; exact h6 _ _ e1, by rw [add_field]; exact h6 _ _ e2, by rw [add_field]; exact h6 _ _ e3, e4, fun hp ad e => ⟨(e5 hp ad e).1, fun hh => (e5 hp ad e).2 (by simp [hh])⟩⟩, ?_, ?_, ?_⟩
  · rw [add_none]; exact World.ownsRow.frozenAt h3 _
  · rw [add_field, add_none]; exact World.ownsRow.frozenAt h3 _
  · rw [add_field, add_none]; exact World.ownsRow.frozenAt h3 _
theorem Mo.setFlags (h : Mo S w A n c l) {ad : Addr} (hA : A = some ad) {k : Nat} (hk : k < l.length) (f : Int) :
    Mo S (w.setCell ⟨(ad.add (k * 4)).block, (ad.add (k * 4)).off + 1, none⟩ (.int .i64 f)) A n c (l.set k { l[k] with flags := f }) := by
  obtain ⟨h1, h2, xs, h3, h4⟩ := h
  obtain ⟨g, cap, hv, _, _⟩ := h3.form (by omega)
  have hA' : A = some ⟨g, 0, none⟩ := by injection hv
  subst hA'
  injection hA with hA
  subst hA
  rw [add_field, add_none, Nat.zero_add]
  have hx : xs.length = n * 4 := h3.1
  have hst := (World.ownsRow.stored h3 (k * 4 + 1) (.int .i64 f)).1
  have ho : Only [g] w (w.setCell ⟨g, k * 4 + 1, none⟩ (.int .i64 f)) := (Only.refl _ _).setCell (.inl (by simp)) _
  have h5 := h4.only ho (fun x hx hm => hx.2 (by simpa using hm))
  obtain ⟨Ab, cb, e0, e1, e2, e3, e4, e5⟩ := h5 k l[k] (List.getElem?_eq_getElem hk)
  refine ⟨by rw [List.length_set]; exact h1, h2, _, hst, ?_⟩
  refine h5.set hk (fun j hj => List.getElem?_set_ne (by omega)) Ab cb ?_ ?_ ?_ ?_ e4 e5
  · rw [List.getElem?_set_ne (by omega)]; exact e0
  · rw [List.getElem?_set_self (by omega)]
  · rw [List.getElem?_set_ne (by omega)]; exact e2
  · rw [List.getElem?_set_ne (by omega)]; exact e3
theorem Mo.setBody (h : Mo S w A n c l) {ad : Addr} (hA : A = some ad) {k : Nat} (hk : k < l.length) (Ab : Option Addr) (cb : Nat) (hs : Sl w Ab l[k].body.length (bvs l[k].body)) (hb : 0 < l[k].body.length → ∀ a, Ab = some a → S a.block ∧ a.block ≠ ad.block) :
    Mo S (w.setCell ⟨(ad.add (k * 4)).block, (ad.add (k * 4)).off + 3, none⟩ (.slice Ab l[k].body.length cb)) A n c l := by
  obtain ⟨h1, h2, xs, h3, h4⟩ := h
  obtain ⟨g, cap, hv, _, _⟩ := h3.form (by omega)
  have hA' : A = some ⟨g, 0, none⟩ := by injection hv
  subst hA'
  injection hA with hA
  subst hA
  rw [add_field, add_none, Nat.zero_add]
  have hx : xs.length = n * 4 := h3.1
  have hst := (World.ownsRow.stored h3 (k * 4 + 3) (.slice Ab l[k].body.length cb)).1
  have ho : Only [g] w (w.setCell ⟨g, k * 4 + 3, none⟩ (.slice Ab l[k].body.length cb)) := (Only.refl _ _).setCell (.inl (by simp)) _
  have h5 := h4.only ho (fun x hx hm => hx.2 (by simpa using hm))
  obtain ⟨A0, c0, e0, e1, e2, e3, e4, e5⟩ := h5 k l[k] (List.getElem?_eq_getElem hk)
  refine ⟨h1, h2, _, hst, ?_⟩
  have := h5.set (m := l[k]) hk (ys := xs.set (k * 4 + 3) (.slice Ab l[k].body.length cb)) (fun j hj => List.getElem?_set_ne (by omega)) Ab cb ?_ ?_ ?_ ?_ (hs.only' ho (fun hp a e hm => (hb hp a e).2 (by simpa using hm))) (fun hp a e => ⟨(hb hp a e).1, fun hm => (hb hp a e).2 (by simpa using hm)⟩)
  · rwa [List.set_getElem_self] at this
  · rw [List.getElem?_set_ne (by omega)]; exact e0
  · rw [List.getElem?_set_ne (by omega)]; exact e1
  · rw [List.getElem?_set_ne (by omega)]; exact e2
  · rw [List.getElem?_set_self (by omega)]
end
theorem infoMg : (Tryz.prog.info? 82).map (fun i => (i.zero, i.size, i.bytes)) = some (some (.agg #[.int .i64 0, .int .i64 0, .int .i64 0, .slice none 0 0]), 4, 48) := by kernel_rfl
set_option maxRecDepth 100000 in
theorem run_append_ms {S : Nat → Prop} {w : World} (ty : TypeId) (A : Option Addr) (n c : Nat) (l : List Mg) (h : Mo S w A n c l) (A2 : Option Addr) (m c2 : Nat) (r : List Mg) (h2 : Ms (fun x => S x ∧ x ∉ blks A) w A2 m r) (hS : ∀ x, w.heap.size ≤ x → S x) (hn : n + m ≤ 1000000000000) :
    ∃ A' c' w', (Builtin.append_ #[69, 69] ty #[.slice A n c, .slice A2 m c2]).run Tryz.prog w = .ok (.slice A' (n + m) c') w' ∧ Mo S w' A' (n + m) c' (l ++ r) ∧ Only (blks A) w w' ∧ ∀ k ∈ blks A', k ∈ blks A ∨ w.heap.size ≤ k := by
  obtain ⟨i0, hi, hz0, hz1, hz2⟩ := info_parts infoMg
  by_cases hm : m = 0 ∧ A2 = none
  · obtain ⟨rfl, rfl⟩ := hm
    obtain rfl : r = [] := List.eq_nil_of_length_eq_zero h2.len
    obtain ⟨h1, h0, xs, h3, h4⟩ := h
    refine ⟨A, c, w, run_append_none' 0 69 ty 82 i0 4 Tryz.underlying69 hi _ n xs h3 c2, ?_, Only.refl _ _, fun k hk => .inl hk⟩
    rw [List.append_nil]
    exact ⟨h1, h0, xs, h3, h4⟩
  · have h2' := h2.lt
    obtain ⟨ad, rfl⟩ : ∃ ad, A2 = some ad := by
      cases A2 with
      | some ad => exact ⟨ad, rfl⟩
      | none =>
        obtain ⟨_, xs, _, h5, _⟩ := h2
        obtain ⟨ad, e, _⟩ := h5 (by
          rcases Nat.eq_zero_or_pos m with h0 | h0
          · exact absurd ⟨h0, rfl⟩ hm
          · exact h0)
        exact ⟨ad, e⟩
    obtain ⟨h1, h0, xs, h3, h4⟩ := h
    obtain ⟨k1, ys, k2, k3, k4⟩ := h2'
    have hxl : xs.length = n * 4 := h3.1
    have hcells : ∀ j u, ys[j]? = some u → w.cell? (ad.add j) = some u := fun j u hu => by
      have hj := (List.getElem?_eq_some_iff.1 hu).1
      obtain ⟨ad', e, _, h6⟩ := k3 (by omega)
      injection e with e
      subst e
      exact h6 j u hu
    have hone : ∀ u ∈ ys, u.oneCell' = true := fun u hu => by
      obtain ⟨j, hj, rfl⟩ := List.mem_iff_getElem.1 hu
      have hk : j / 4 < r.length := by omega
      obtain ⟨Ab, cb, e0, e1, e2, e3, _⟩ := k4 (j / 4) r[j / 4] (List.getElem?_eq_getElem hk)
      have hq := List.getElem?_eq_getElem hj
      rcases (by omega : j = j / 4 * 4 ∨ j = j / 4 * 4 + 1 ∨ j = j / 4 * 4 + 2 ∨ j = j / 4 * 4 + 3) with e | e | e | e
      · rw [← e, hq] at e0; injection e0 with e0; rw [e0]; rfl
      · rw [← e, hq] at e1; injection e1 with e1; rw [e1]; rfl
      · rw [← e, hq] at e2; injection e2 with e2; rw [e2]; rfl
      · rw [← e, hq] at e3; injection e3 with e3; rw [e3]; rfl
    obtain ⟨v', w', hrun, r1, r2, _, r4⟩ := run_append_own_at (P := Tryz.prog) w 0 69 ty 82 i0 (.agg #[.int .i64 0, .int .i64 0, .int .i64 0, .slice none 0 0]) 4 48 Tryz.underlying69 hi hz0 hz1 hz2 rfl (by omega) _ n xs h3 ad m c2 ys (by omega) hcells hone (by unfold maxLen; omega) (by omega) (Nat.zero_le _)
    have hform : ∃ A' c', v' = .slice A' (n + m) c' := by
      rcases r1.2 with ⟨rfl, h0⟩ | ⟨g, cap, cur, rfl, _⟩
      · exact ⟨none, 0, by rw [h0]⟩
      · exact ⟨_, _, rfl⟩
    obtain ⟨A', c', rfl⟩ := hform
    have hO : Only (blks A) w w' := by
      have := Only.of_grown r2
      cases A with
      | none => simpa [Value.ownBlock] using this
      | some a => simpa [Value.ownBlock] using this
    have hA' : ∀ k ∈ blks A', k ∈ blks A ∨ w.heap.size ≤ k := fun k hk => by
      cases A' with
      | none => cases hk
      | some a' =>
        simp only [blks_some, List.mem_singleton] at hk
        subst hk
        rcases r4 with r4 | r4
        · left
          cases A with
          | none => simp [Value.ownBlock] at r4
          | some a => simp [Value.ownBlock] at r4; simp [r4]
        · right
          simp [Value.ownBlock] at r4
          omega
    have far : ∀ x, (S x ∧ x ∉ blks A) ∧ x < w.heap.size → S x ∧ x ∉ blks A' := fun x hx => ⟨hx.1.1, fun hm => by
      rcases hA' x hm with h5 | h5
      · exact hx.1.2 h5
      · have := hx.2; omega⟩
    refine ⟨A', c', w', hrun, ⟨by rw [List.length_append]; omega, fun x hx => ?_, xs ++ ys, r1, ?_⟩, hO, hA'⟩
    · rcases hA' x hx with h5 | h5
      · exact h0 x h5
      · exact hS x h5
    · exact ((h4.lt.only hO (fun x hx => hx.1.2)).mono far).append ((k4.only hO (fun x hx => hx.1.2)).mono far) (by omega)
theorem wpList_append_ms {ops : Array Oper} {rest : List Oper} {o : Oper} {a : Act} {w : World} {Q : Exit → Act → World → Prop} (hgd : o.guard = none) (s x : Operand)
    (ho : o.op = .call { callee := .builtin .append, args := #[s, x], argTypes := #[69, 69] }) {S : Nat → Prop} (A : Option Addr) (n c : Nat) (l : List Mg) (hs : a.eval s = .slice A n c) (h : Mo S w A n c l)
    (A2 : Option Addr) (m c2 : Nat) (r : List Mg) (hx : a.eval x = .slice A2 m c2) (h2 : Ms (fun x => S x ∧ x ∉ blks A) w A2 m r) (hS : ∀ x, w.heap.size ≤ x → S x) (hn : n + m ≤ 1000000000000) (q : Nat) (hq : n + m = q)
    (hK : ∀ A' c' w', Mo S w' A' q c' (l ++ r) → Only (blks A) w w' → (∀ k ∈ blks A', k ∈ blks A ∨ w.heap.size ≤ k) → wpList Tryz.prog ops Q rest (a.put o.dst (.slice A' q c')) w') : wpList Tryz.prog ops Q (o :: rest) a w := by
  subst hq
  refine wpList_plain hgd fun K hK2 => ?_
  obtain ⟨A', c', w', hrun, k1, k2, k3⟩ := run_append_ms o.type A n c l h A2 m c2 r h2 hS hn
  unfold Oper.wp execOp
  simp only [ho, resolve, invoke, builtin, Sem.run_bind, Sem.run_pure, Result.andThen_ok, List.map_toArray, List.map_cons, List.map_nil, hs, hx, hrun]
  exact hK2 _ _ (hK A' c' w' k1 k2 k3)
def bxv (b : Bx) (A : Option Addr) (c : Nat) : Value := .agg #[.string (St b.name), .int .i64 b.val, .int .i64 b.next, .slice A b.l.length c]
def bxc (b : Bx) (A : Option Addr) (c : Nat) : Array Value := #[.string (St b.name), .int .i64 b.val, .int .i64 b.next, .slice A b.l.length c]
end Go.Proofs.YtgnilldcfpgpaaaGreatDoor
namespace Go.Proofs.YtgnilldcfpgpaaaGreatDoor
open Go.RowKit
def Quiet (w : World) (v : Value) (e : Ending) (w' : World) : Prop := e = .returned v ∧ ∃ m, w' = w.drewN m
end Go.Proofs.YtgnilldcfpgpaaaGreatDoor
namespace Go.Proofs.YtgnilldcfpgpaaaGreatDoor
open Go.RowKit Go.Instr
set_option maxRecDepth 100000 in
theorem mayMark_any (f d : Int) (w : World) : Calls Tryz.prog 228 #[.int .i64 f, .int .i64 d] w fun e w' => e = .returned (.bool (markOk f d)) ∧ w = w' := by
  obtain ⟨q, hq⟩ : ∃ q, markOk f d = q := ⟨_, rfl⟩
  rw [hq]
  have no : ¬ ((0 ≤ f ∧ f ≤ 31) ∧ 0 ≤ d ∧ d ≤ 1073741824) → Hid (q = false) := fun h => by
    show _ = _
    rw [← hq, Bool.eq_false_iff]
    intro e
    exact h (markOk_iff.1 e)
  by_cases h1 : (0 : Int) ≤ f
  · by_cases h2 : f ≤ 31
    · by_cases h3 : (0 : Int) ≤ d
      · by_cases h4 : d ≤ 1073741824
        · have HQ : Hid (q = true) := by show _ = _; rw [← hq]; exact markOk_iff.2 ⟨⟨h1, h2⟩, h3, h4⟩
          clear hq no
          go_enter Tryz.func228, Tryz.ntmps228
          go_wp2
          go_ret
          exact ⟨by rw [HQ.out]; rfl, rfl⟩
        · have HQ := no (by omega)
          clear hq no
          go_enter Tryz.func228, Tryz.ntmps228
          go_wp2
          go_ret
          exact ⟨by rw [HQ.out]; rfl, rfl⟩
      · have HQ := no (by omega)
        clear hq no
        go_enter Tryz.func228, Tryz.ntmps228
        go_wp2
        go_ret
        exact ⟨by rw [HQ.out]; rfl, rfl⟩
    · have HQ := no (by omega)
      clear hq no
      go_enter Tryz.func228, Tryz.ntmps228
      go_wp2
      go_ret
      exact ⟨by rw [HQ.out]; rfl, rfl⟩
  · have HQ := no (by omega)
    clear hq no
    go_enter Tryz.func228, Tryz.ntmps228
    go_wp2
    go_ret
    exact ⟨by rw [HQ.out]; rfl, rfl⟩
theorem infoBx : (Tryz.prog.info? 71).map (·.size) = some 4 := by kernel_rfl
theorem new_ret {fn : Func} {R : Ending → World → Prop} {tmps : Array Value} {w : World} {s : Nat} (hres : fn.results = #[.cell s 71]) (p : Nat) (b : Bx) (A : Option Addr) (c : Nat) (h2 : tmps.getD s undef = .pointer (some ⟨p, 0, none⟩))
    (hb : Bk w p 71 (bxc b A c)) (hR : R (.returned (bxv b A c)) w) : bodyPost Tryz.prog fn R .ret { tmps := tmps, defers := [] } w := by
  refine bodyPost_ret (v := bxv b A c) ?_ rfl hR
  exact results_cell_row hres tmps w p 71 (bxc b A c) (0, 0) _ h2 hb Tryz.underlying71 rfl infoBx
theorem results_cell_tmp2 {fn : Func} {p u v : Tmp} {ty : TypeId} (h : fn.results = #[.cell p ty, .tmp u, .tmp v]) (tmps : Array Value) (P : Program) (w : World) :
    (results fn tmps).run P w =
      ((asAddr (tmps.getD p undef)).run P w).andThen fun a w₁ => ((loadVar ty a).run P w₁).andThen fun x w₂ => .ok (.tuple #[x, tmps.getD u undef, tmps.getD v undef]) w₂ := by
  simp only [results, h]
  simp [Sem.run_bind, Result.andThen]
theorem box_ret {fn : Func} {R : Ending → World → Prop} {tmps : Array Value} {w : World} {s u : Nat} (hres : fn.results = #[.cell s 71, .tmp u]) (p : Nat) (b : Bx) (A : Option Addr) (c : Nat) (x : Value) (h2 : tmps.getD s undef = .pointer (some ⟨p, 0, none⟩)) (h3 : tmps.getD u undef = x)
    (hb : Bk w p 71 (bxc b A c)) (hR : R (.returned (.tuple #[bxv b A c, x])) w) : bodyPost Tryz.prog fn R .ret { tmps := tmps, defers := [] } w := by
  refine bodyPost_ret (v := .tuple #[bxv b A c, x]) ?_ rfl hR
  rw [results_cell_tmp hres]
  rw [h2, h3]
  simp only [asAddr, Sem.run_pure, Result.andThen_ok]
  rw [run_loadVar_row (P := Tryz.prog) w p 71 71 (bxc b A c) (0, 0) _ hb Tryz.underlying71 rfl infoBx]
  rfl
theorem box_ret2 {fn : Func} {R : Ending → World → Prop} {tmps : Array Value} {w : World} {s u v : Nat} (hres : fn.results = #[.cell s 71, .tmp u, .tmp v]) (p : Nat) (b : Bx) (A : Option Addr) (c : Nat) (x y : Value) (h2 : tmps.getD s undef = .pointer (some ⟨p, 0, none⟩)) (h3 : tmps.getD u undef = x) (h4 : tmps.getD v undef = y)
    (hb : Bk w p 71 (bxc b A c)) (hR : R (.returned (.tuple #[bxv b A c, x, y])) w) : bodyPost Tryz.prog fn R .ret { tmps := tmps, defers := [] } w := by
  refine bodyPost_ret (v := .tuple #[bxv b A c, x, y]) ?_ rfl hR
  rw [results_cell_tmp2 hres]
  rw [h2, h3, h4]
  simp only [asAddr, Sem.run_pure, Result.andThen_ok]
  rw [run_loadVar_row (P := Tryz.prog) w p 71 71 (bxc b A c) (0, 0) _ hb Tryz.underlying71 rfl infoBx]
  rfl
theorem New_any (s : List UInt8) (v : Int) (w : World) : Calls Tryz.prog 195 #[.string (St s), .int .i64 v] w fun e w' => e = .returned (bxv (newB s v) none 0) ∧ Only [] w w' := by
  go_enter Tryz.func195, Tryz.ntmps195
  go_wp2
  exact new_ret (s := 4) (by kernel_rfl) w.heap.size (newB s v) none 0 rfl (Bk.new w _ _) ⟨rfl, (Only.refl [] w).alloc _⟩
end Go.Proofs.YtgnilldcfpgpaaaGreatDoor
namespace Go.Proofs.YtgnilldcfpgpaaaGreatDoor
open Go.RowKit Go.Instr
def okr (r : Nat) : Bool := (decide (97 ≤ r) && decide (r ≤ 122)) || (decide (48 ≤ r) && decide (r ≤ 57))
set_option maxRecDepth 100000 in
theorem Name1_any (r : Nat) (w : World) : Calls Tryz.prog 187 #[.int .i32 (r : Int)] w fun e w' => e = .returned (.bool (!okr r)) ∧ w = w' := by
  obtain ⟨q, hq⟩ : ∃ q, (!okr r) = q := ⟨_, rfl⟩
  rw [hq]
  have key : ∀ b, okr r = b → Hid (q = !b) := fun b h => by show _ = _; rw [← hq, h]
  have yes : okr r = true ↔ (97 ≤ r ∧ r ≤ 122) ∨ (48 ≤ r ∧ r ≤ 57) := by simp [okr]
  have no : ¬ ((97 ≤ r ∧ r ≤ 122) ∨ (48 ≤ r ∧ r ≤ 57)) → okr r = false := fun h => by rw [Bool.eq_false_iff]; exact fun e => h (yes.1 e)
  by_cases h1 : r < 48
  · have HQ := key _ (no (by omega))
    have i1 : (r : Int) < 97 := by omega
    have i2 : (r : Int) < 48 := by omega
    clear hq key yes no h1
    go_enter Tryz.func187, Tryz.ntmps187
    go_wp2
    go_ret
    exact ⟨by rw [HQ.out]; rfl, rfl⟩
  · by_cases h2 : r ≤ 57
    · have HQ := key _ (yes.2 (by omega))
      have i1 : (r : Int) < 97 := by omega
      have i2 : ¬ (r : Int) < 48 := by omega
      have i3 : ¬ (57 : Int) < (r : Int) := by omega
      clear hq key yes no h1 h2
      go_enter Tryz.func187, Tryz.ntmps187
      go_wp2
      go_ret
      exact ⟨by rw [HQ.out]; rfl, rfl⟩
    · by_cases h3 : r < 97
      · have HQ := key _ (no (by omega))
        have i1 : (r : Int) < 97 := by omega
        have i2 : ¬ (r : Int) < 48 := by omega
        have i3 : (57 : Int) < (r : Int) := by omega
        clear hq key yes no h1 h2 h3
        go_enter Tryz.func187, Tryz.ntmps187
        go_wp2
        go_ret
        exact ⟨by rw [HQ.out]; rfl, rfl⟩
      · have i1 : ¬ (r : Int) < 97 := by omega
        have i2 : ¬ (r : Int) < 48 := by omega
        have i3 : (57 : Int) < (r : Int) := by omega
        by_cases h4 : r ≤ 122
        · have HQ := key _ (yes.2 (by omega))
          have i4 : ¬ (122 : Int) < (r : Int) := by omega
          clear hq key yes no h1 h2 h3 h4
          go_enter Tryz.func187, Tryz.ntmps187
          go_wp2
          go_ret
          exact ⟨by rw [HQ.out]; rfl, rfl⟩
        · have HQ := key _ (no (by omega))
          have i4 : (122 : Int) < (r : Int) := by omega
          clear hq key yes no h1 h2 h3 h4
          go_enter Tryz.func187, Tryz.ntmps187
          go_wp2
          go_ret
          exact ⟨by rw [HQ.out]; rfl, rfl⟩
theorem enters_Name1 : ∀ args w, (callFunc 187 args).run Tryz.prog w = .ok (.enter 187 args) w := Go.Proofs.enters_of Tryz.func187 (by kernel_rfl) rfl
theorem rune_ok (s : ByteArray) (pos : Nat) (h : pos < s.size) : okr (Utf8.decode s pos).1 = okc (s[pos]'h) ∧ (okc (s[pos]'h) = true → (Utf8.decode s pos).2 = 1) := by
  by_cases ha : (s[pos]'h).toNat < 128
  · rw [decode_ascii s pos h ha]
    exact ⟨rfl, fun _ => rfl⟩
  · have hd := decode_high s pos h (by omega)
    have h1 : okc (s[pos]'h) = false := by unfold okc; simp; omega
    have h2 : okr (Utf8.decode s pos).1 = false := by unfold okr; simp; omega
    rw [h1, h2]
    exact ⟨rfl, fun e => by cases e⟩
theorem all_take_succ {s : List UInt8} {k : Nat} (h : k < s.length) : (s.take (k + 1)).all okc = ((s.take k).all okc && okc s[k]) := by
  rw [List.take_succ_eq_append_getElem h, List.all_append]
  simp
theorem all_bad {s : List UInt8} {k : Nat} (h : k < s.length) (hb : okc s[k] = false) : s.all okc = false := by
  rw [List.all_eq_false]
  exact ⟨s[k], List.getElem_mem h, by rw [hb]; simp⟩
set_option maxHeartbeats 2000000 in
set_option maxRecDepth 1000000 in
theorem indexFunc_any (s : ByteArray) (w : World) : Calls Tryz.prog 238 #[.string s, .func (.func 187) #[] #[], .bool true] w fun e w' => ∃ I : Int, e = .returned (.int .i64 I) ∧ Hid (decide (0 ≤ I) = !(s.data.toList.all okc)) ∧ Only [] w w' := by
  have eg := enters_Name1
  go_enter Tryz.func238, Tryz.ntmps238
  go_wp2
  go_loopg [] s.size (fun gf wx => ∃ pos : Nat, wx.heap[w.heap.size]? = some (.stringIter s pos) ∧ Below w.heap.size w wx ∧ Hid ((s.data.toList.take pos).all okc = true) ∧ pos ≤ s.size ∧ s.size ≤ pos + gf)
  case atStart => exact ⟨0, World.iter_heap w s 0, (Below.refl _ w).alloc (Nat.le_refl _) _, by show _ = _; simp, Nat.zero_le _, by omega⟩
  case round =>
    obtain ⟨pos, hit, hbw, HA, hle, hfu⟩ := hrel
    by_cases hps : pos < s.size
    · obtain ⟨g', rfl⟩ : ∃ g', gk = g' + 1 := ⟨gk - 1, by omega⟩
      have hnx : ∀ ty, (Instr.next (.pointer (some ⟨w.heap.size, 0, none⟩)) true ty).run Tryz.prog wr = _ := fun ty => Lib.run_next_any_at wr w.heap.size s pos ty hit hps
      obtain ⟨hr1, hr2⟩ := rune_ok s pos hps
      have hpl : pos < s.data.toList.length := by rw [Array.length_toList]; exact hps
      have hge : s.data.toList[pos] = s[pos]'hps := by rw [Array.getElem_toList]; rfl
      have hsuc := all_take_succ hpl
      have hbad := all_bad hpl
      rw [hge] at hsuc hbad
      obtain ⟨R, hR⟩ : ∃ R, (Utf8.decode s pos).1 = R := ⟨_, rfl⟩
      obtain ⟨K, hK⟩ : ∃ K, (Utf8.decode s pos).2 = K := ⟨_, rfl⟩
      rw [hR] at hr1
      rw [hK] at hr2
      rw [hR, hK] at hnx
      have hit2 := Lib.iterAt_heap wr w.heap.size s pos (pos + K) hit
      have hbw2 := Lib.below_iterAt hbw (k := w.heap.size) (Nat.le_refl _) s (pos + K)
      obtain ⟨W, hWd⟩ : ∃ W, wr.iterAt w.heap.size s (pos + K) = W := ⟨_, rfl⟩
      rw [hWd] at hnx hit2 hbw2
      have cS := Name1_any R W
      rw [hr1] at cS
      obtain ⟨b, hb⟩ : ∃ b, okc (s[pos]'hps) = b := ⟨_, rfl⟩
      rw [hb] at cS hr2 hsuc hbad
      cases b
      · have HE : Hid (decide ((0 : Int) ≤ (pos : Int)) = !(s.data.toList.all okc)) := by
          show _ = _
          rw [hbad rfl]
          exact decide_eq_true (by omega)
        clear hbad hsuc hr1 hr2 hb hge hR hK hWd
        go_wp2_with (go_at_fn 187; refine cS.mono ?_; rintro e W' ⟨rfl, rfl⟩)
        go_ret
        exact ⟨pos, rfl, HE.out, Only.of_below hbw2⟩
      · obtain rfl := hr2 rfl
        have HS : Hid ((s.data.toList.take (pos + 1)).all okc = true) := by show _ = _; rw [hsuc, HA.out]; rfl
        clear hbad hsuc hr1 hr2 hb hge hR hK hWd
        go_wp2_with (go_at_fn 187; refine cS.mono ?_; rintro e W' ⟨rfl, rfl⟩)
        go_roundg g'
        case measure => omega
        case rel => exact ⟨pos + 1, hit2, hbw2, HS, by omega, by omega⟩
    · have hend : ∀ ty, (Instr.next (.pointer (some ⟨w.heap.size, 0, none⟩)) true ty).run Tryz.prog wr = _ := fun ty => Lib.run_next_end_at wr w.heap.size s pos ty hit hps
      have HE : Hid (decide ((0 : Int) ≤ -1) = !(s.data.toList.all okc)) := by
        show _ = _
        have := HA.out
        rw [List.take_of_length_le (by rw [Array.length_toList]; exact Nat.le_of_not_lt hps)] at this
        rw [this]
        rfl
      go_wp2
      go_ret
      exact ⟨-1, rfl, HE.out, Only.of_below hbw⟩
theorem IndexFuncS_any (s : ByteArray) (w : World) : Calls Tryz.prog 222 #[.string s, .func (.func 187) #[] #[]] w fun e w' => ∃ I : Int, e = .returned (.int .i64 I) ∧ Hid (decide (0 ≤ I) = !(s.data.toList.all okc)) ∧ Only [] w w' := by
  have hI := indexFunc_any s w
  go_enter Tryz.func222, Tryz.ntmps222
  go_wp2_with (go_at_call 238; with_reducible refine hI.mono ?_; rintro e w2 ⟨I, rfl, HI, O2⟩)
  go_ret
  exact ⟨I, rfl, HI.out, O2⟩
theorem ContainsFuncS_any (s : ByteArray) (w : World) : Calls Tryz.prog 186 #[.string s, .func (.func 187) #[] #[]] w fun e w' => e = .returned (.bool (!(s.data.toList.all okc))) ∧ Only [] w w' := by
  have hI := IndexFuncS_any s w
  go_enter Tryz.func186, Tryz.ntmps186
  go_wp2_with (go_at_call 222; with_reducible refine hI.mono ?_; rintro e w2 ⟨I, rfl, HI, O2⟩)
  go_ret
  exact ⟨by rw [← HI.out]; rfl, O2⟩
set_option maxRecDepth 100000 in
theorem Name_any (s : List UInt8) (w : World) : Calls Tryz.prog 130 #[.string (St s)] w fun e w' => e = .returned (.bool (nameL s)) ∧ Only [] w w' := by
  have hC := ContainsFuncS_any (St s) w
  rw [St_list] at hC
  obtain ⟨q, hq⟩ : ∃ q, nameL s = q := ⟨_, rfl⟩
  rw [hq]
  have hs := St_size s
  by_cases h1 : 1 ≤ s.length
  · by_cases h2 : s.length ≤ 12
    · have HQ : Hid (q = s.all okc) := by show _ = _; rw [← hq]; unfold nameL; simp [h1, h2]
      have i1 : (1 : Int) ≤ ((St s).size : Int) := by omega
      have i2 : ((St s).size : Int) ≤ 12 := by omega
      clear hq hs h1 h2
      obtain ⟨p, hp⟩ : ∃ p, s.all okc = p := ⟨_, rfl⟩
      rw [hp] at hC HQ
      generalize St s = t at *
      clear hp
      cases p
      all_goals
        go_enter Tryz.func130, Tryz.ntmps130
        go_wp2_with (go_at_call 186; go_must (with_reducible refine hC.mono ?_); rintro e w2 ⟨rfl, O2⟩)
        go_ret
        exact ⟨by rw [HQ.out]; rfl, O2⟩
    · have HQ : Hid (q = false) := by show _ = _; rw [← hq]; unfold nameL; simp [h2]
      have i1 : (1 : Int) ≤ ((St s).size : Int) := by omega
      have i2 : ¬ ((St s).size : Int) ≤ 12 := by omega
      clear hq hs h1 h2 hC
      generalize St s = t at *
      go_enter Tryz.func130, Tryz.ntmps130
      go_wp2
      go_ret
      exact ⟨by rw [HQ.out]; rfl, Only.refl _ _⟩
  · have HQ : Hid (q = false) := by show _ = _; rw [← hq]; unfold nameL; simp [h1]
    have i1 : ¬ (1 : Int) ≤ ((St s).size : Int) := by omega
    clear hq hs h1 hC
    generalize St s = t at *
    go_enter Tryz.func130, Tryz.ntmps130
    go_wp2
    go_ret
    exact ⟨by rw [HQ.out]; rfl, Only.refl _ _⟩
end Go.Proofs.YtgnilldcfpgpaaaGreatDoor
namespace Go.Proofs.YtgnilldcfpgpaaaGreatDoor
open Go.RowKit Go.Instr
set_option maxRecDepth 100000 in
set_option maxHeartbeats 1000000 in
theorem refName_any (s : List UInt8) (w : World) (hn : s.length ≤ 140737488355328) : Calls Tryz.prog 38 #[.string (St s)] w fun e w' => e = .returned (.bool (nameL s)) ∧ w = w' := by
  obtain ⟨q, hq⟩ : ∃ q, nameL s = q := ⟨_, rfl⟩
  rw [hq]
  have hs := St_size s
  have HQ := Lib.hid hq
  have hix : ∀ (k : Nat) (hk : k < s.length) (W : World), (Instr.index 9 (.string (St s)) (.int .i64 (k : Int))).run Tryz.prog W = .ok (.int .u8 ((s[k]).toNat : Int)) W := fun k hk W => by
    have hk' : k < (St s).size := by omega
    rw [run_index_string W 9 (St s) .i64 (k : Int) Tryz.underlying9, dif_pos ⟨by omega, by omega⟩]
    simp [ByteArray.getElem_eq_getElem_data]
  have HIX := Lib.hid hix
  have HSZ := Lib.hid hs
  clear hix hs hq
  generalize ht : St s = t at *
  clear ht
  go_enter Tryz.func38, Tryz.ntmps38
  go_wp2
  go_loop [3] (fun i => ∃ k : Nat, i = .int .i64 (k : Int) ∧ k ≤ s.length ∧ Hid ((s.take k).all okc = true)) (fun i => s.length - (intOf i).toNat)
  case atStart => exact ⟨0, rfl, Nat.zero_le _, by show _ = _; simp⟩
  case round =>
    obtain ⟨k, rfl, hk, HA⟩ := hrel
    have hz : (t.size : Int) = (s.length : Int) := by rw [HSZ.out]
    by_cases hlt : k < s.length
    · have hlt' : (k : Int) < (s.length : Int) := by omega
      have hx := HIX.out k hlt
      have hsuc := all_take_succ hlt
      have hbad := all_bad hlt
      obtain ⟨y, hy⟩ : ∃ y, s[k] = y := ⟨_, rfl⟩
      rw [hy] at hx hsuc hbad
      have hyb := y.toNat_lt
      have hok : okc y = true ↔ (97 ≤ y.toNat ∧ y.toNat ≤ 122) ∨ (48 ≤ y.toNat ∧ y.toNat ≤ 57) := by simp [okc]
      have good : okc y = true → Hid (∃ k' : Nat, Value.int .i64 ((k : Int) + 1) = .int .i64 (k' : Int) ∧ k' ≤ s.length ∧ Hid ((s.take k').all okc = true)) := fun h => ⟨k + 1, by simp, by omega, by show _ = _; rw [hsuc, HA.out, h]; rfl⟩
      have bad : ¬ ((97 ≤ y.toNat ∧ y.toNat ≤ 122) ∨ (48 ≤ y.toNat ∧ y.toNat ≤ 57)) → Hid (q = false) := fun h => by
        show _ = _
        rw [← HQ.out]
        have hb : okc y = false := by rw [Bool.eq_false_iff]; exact fun e => h (hok.1 e)
        unfold nameL
        rw [hbad hb, Bool.and_false]
      have HM : Hid (s.length - (intOf (.int .i64 ((k : Int) + 1))).toNat < s.length - (intOf (.int .i64 (k : Int))).toNat) := by
        show _ < _
        simp [intOf]
        omega
      have hkb : (k : Int) + 1 ≤ 140737488355328 := by omega
      generalize y.toNat = x at *
      rw [hok] at good
      clear hok hsuc hbad hy
      rcases (by omega : x < 48 ∨ (48 ≤ x ∧ x ≤ 57) ∨ (57 < x ∧ x < 97) ∨ (97 ≤ x ∧ x ≤ 122) ∨ 122 < x) with h | h | h | h | h
      · have HB := bad (by omega)
        have i1 : (x : Int) < 97 := by omega
        have i2 : (x : Int) < 48 := by omega
        clear good bad h
        go_wp2
        go_ret
        exact ⟨by rw [HB.out]; rfl, rfl⟩
      · have HR := good (by omega)
        have i1 : (x : Int) < 97 := by omega
        have i2 : ¬ (x : Int) < 48 := by omega
        have i3 : ¬ (57 : Int) < (x : Int) := by omega
        clear good bad h
        go_wp2
        exact ⟨HR.out, HM.out⟩
      · have HB := bad (by omega)
        have i1 : (x : Int) < 97 := by omega
        have i2 : ¬ (x : Int) < 48 := by omega
        have i3 : (57 : Int) < (x : Int) := by omega
        clear good bad h
        go_wp2
        go_ret
        exact ⟨by rw [HB.out]; rfl, rfl⟩
      · have HR := good (by omega)
        have i1 : ¬ (x : Int) < 97 := by omega
        have i2 : ¬ (122 : Int) < (x : Int) := by omega
        clear good bad h
        go_wp2
        exact ⟨HR.out, HM.out⟩
      · have HB := bad (by omega)
        have i1 : ¬ (x : Int) < 97 := by omega
        have i2 : (122 : Int) < (x : Int) := by omega
        have i3 : ¬ (x : Int) < 48 := by omega
        have i4 : (57 : Int) < (x : Int) := by omega
        clear good bad h
        go_wp2
        go_ret
        exact ⟨by rw [HB.out]; rfl, rfl⟩
    · obtain rfl : k = s.length := by omega
      have HA' : s.all okc = true := by have := HA.out; rwa [List.take_length] at this
      have hlt' : ¬ (s.length : Int) < (s.length : Int) := by omega
      by_cases h1 : 1 ≤ s.length
      · by_cases h2 : s.length ≤ 12
        · have HB : Hid (q = true) := by show _ = _; rw [← HQ.out]; unfold nameL; simp [h1, h2, HA']
          have i1 : (1 : Int) ≤ (s.length : Int) := by omega
          have i2 : (s.length : Int) ≤ 12 := by omega
          clear HA'
          go_wp2
          go_ret
          exact ⟨by rw [HB.out]; rfl, rfl⟩
        · have HB : Hid (q = false) := by show _ = _; rw [← HQ.out]; unfold nameL; simp [h2]
          have i1 : (1 : Int) ≤ (s.length : Int) := by omega
          have i2 : ¬ (s.length : Int) ≤ 12 := by omega
          clear HA'
          go_wp2
          go_ret
          exact ⟨by rw [HB.out]; rfl, rfl⟩
      · have HB : Hid (q = false) := by show _ = _; rw [← HQ.out]; unfold nameL; simp [h1]
        have i1 : ¬ (1 : Int) ≤ (s.length : Int) := by omega
        clear HA'
        go_wp2
        go_ret
        exact ⟨by rw [HB.out]; rfl, rfl⟩
end Go.Proofs.YtgnilldcfpgpaaaGreatDoor
