/-
  A region that draws its order, by what always holds: those operations that have one value only, told apart; two new blocks.
-/
import Derived.Test.YthaodlegpjedoaaInv
import Derived.Test.YthaodlegpjedoaaVRefAdd0
namespace Go.Proofs.Ythaodlegpjedoaa
open Go Go.RowKit Go.Instr

section
variable {P : Program} {ops : Array Oper} {Q : Exit → Act → World → Prop} {I : (Nat → Bool) → (Nat → Value) → World → Prop}
/-- The values of those that have one only. -/
def fitsL (pl : List (Option Value)) (vs : Nat → Value) : Prop := ∀ k v, pl[k]? = some (some v) → vs k = v
/-- The steps in the order of the text. -/
def inv2Walk (P : Program) (ops : Array Oper) (I : (Nat → Bool) → (Nat → Value) → World → Prop) (Q : Exit → Act → World → Prop) (vs : Nat → Value) : List (Option Value) → List Oper → Nat → Act → Prop
  | [], [], _, a => ∀ L w, (∀ j, j < ops.size → L j = true) → I L vs w → Q .normal a w
  | some v :: pl, o :: l, k, a => (∀ L w, I L vs w → L k = false → (∀ j, waits o j = true → L j = true) → stepR P ops (fun _ _ => True) a o w (fun u w' => u = v ∧ I (updN L k true) vs w')) ∧ inv2Walk P ops I Q vs pl l (k + 1) (a.put o.dst v)
  | none :: pl, o :: l, k, a => (∀ L w, I L vs w → L k = false → (∀ j, waits o j = true → L j = true) → stepR P ops (fun _ _ => True) a o w (fun u w' => I (updN L k true) (updN vs k u) w')) ∧ inv2Walk P ops I Q vs pl l (k + 1) (a.put o.dst (vs k))
  | [], _ :: _, _, _ => False
  | _ :: _, [], _, _ => False
theorem stepR.mono {a : Act} {o : Oper} {w : World} {φ ψ : Value → World → Prop} (h : stepR P ops (fun _ _ => True) a o w φ) (hm : ∀ u w', φ u w' → ψ u w') : stepR P ops (fun _ _ => True) a o w ψ := by
  unfold stepR at *
  rcases h with ⟨h1, h2⟩ | ⟨h1, h2⟩
  · refine .inl ⟨h1, ?_⟩
    generalize (execOp a.eval o).run P w = r at h2 ⊢
    cases r with
    | ok n w' =>
      cases n <;> simp only [GivesR] at h2 ⊢
      case value u => exact ⟨hm _ _ h2.1, trivial⟩
      case skip => exact ⟨hm _ _ h2.1, trivial⟩
      case enter f args => exact Calls.mono h2 fun e w'' he => by obtain ⟨u, e1, e2, e3⟩ := he; exact ⟨u, e1, hm _ _ e2, e3⟩
    | halt x w' => simp only [GivesR] at h2
  · exact .inr ⟨h1, hm _ _ h2⟩
theorem inv2_spec (plAll : List (Option Value)) (vs : Nat → Value) (hf : fitsL plAll vs) (a0 : Act) : ∀ (pl : List (Option Value)) (l : List Oper) (k : Nat) (a : Act), (∀ j, plAll[k + j]? = pl[j]?) → (∀ j, ops[k + j]? = l[j]?) → k + l.length = ops.size → a = frm ops a0 vs k → inv2Walk P ops I Q vs pl l k a →
    (∀ i o, k ≤ i → ops[i]? = some o → ∀ L w, I L vs w → L i = false → (∀ j, waits o j = true → L j = true) → stepR P ops (fun _ _ => True) (frm ops a0 vs i) o w (fun u w' => fitsL plAll (updN vs i u) ∧ I (updN L i true) (updN vs i u) w')) ∧
      (∀ L w, (∀ j, j < ops.size → L j = true) → I L vs w → Q .normal (frm ops a0 vs ops.size) w)
  | [], [], k, a, _, _, hs, ha, h => by
    have hs : k = ops.size := by simpa using hs
    subst hs
    refine ⟨fun i o hi ho => ?_, by rw [← ha]; exact h⟩
    have := (Array.getElem?_eq_some_iff.1 ho).1
    omega
  | x :: pl, o :: l, k, a, hp, hl, hs, ha, h => by
    have ho : ops[k]? = some o := by have := hl 0; simpa using this
    have hpk : plAll[k]? = some x := by have := hp 0; simpa using this
    have hdo : o.dst = dstOf ops k := by unfold dstOf; rw [ho]; rfl
    have nexts : ∀ u, vs k = u → inv2Walk P ops I Q vs pl l (k + 1) (a.put o.dst u) → _ := fun u hu hh => inv2_spec plAll vs hf a0 pl l (k + 1) (a.put o.dst u) (fun j => by have := hp (j + 1); rw [show k + 1 + j = k + (j + 1) by omega]; simpa using this)
      (fun j => by have := hl (j + 1); rw [show k + 1 + j = k + (j + 1) by omega]; simpa using this) (by simp at hs; omega) (by rw [ha, hdo, ← hu]; rfl) hh
    have self : ∀ v, vs k = v → updN vs k v = vs := fun v hv => funext fun j => by
      unfold updN
      split
      · rename_i e; rw [e, hv]
      · rfl
    cases x with
    | some v =>
      have hv : vs k = v := hf k v hpk
      have r := nexts v hv h.2
      refine ⟨fun i o' hi ho' => ?_, r.2⟩
      by_cases e : i = k
      · subst e
        rw [ho] at ho'
        injection ho' with ho'
        subst ho'
        rw [← ha]
        intro L w hI hL hw
        refine (h.1 L w hI hL hw).mono fun u w' hh => ?_
        obtain ⟨rfl, h2⟩ := hh
        rw [self _ hv]
        exact ⟨hf, h2⟩
      · exact r.1 i o' (by omega) ho'
    | none =>
      have r := nexts (vs k) rfl h.2
      refine ⟨fun i o' hi ho' => ?_, r.2⟩
      by_cases e : i = k
      · subst e
        rw [ho] at ho'
        injection ho' with ho'
        subst ho'
        rw [← ha]
        intro L w hI hL hw
        refine (h.1 L w hI hL hw).mono fun u w' hh => ⟨fun j v hj => ?_, hh⟩
        by_cases e : j = i
        · subst e
          rw [hpk] at hj
          cases hj
        · rw [updN_ne _ _ e]
          exact hf j v hj
      · exact r.1 i o' (by omega) ho'
  | [], _ :: _, _, _, _, _, _, _, h => h.elim
  | some _ :: _, [], _, _, _, _, _, _, h => h.elim
  | none :: _, [], _, _, _, _, _, _, h => h.elim
theorem inv2Walk_len (vs : Nat → Value) : ∀ (pl : List (Option Value)) (l : List Oper) (k : Nat) (a : Act), inv2Walk P ops I Q vs pl l k a → pl.length = l.length
  | [], [], _, _, _ => rfl
  | some v :: pl, o :: l, k, a, h => by simp [inv2Walk_len vs pl l _ _ h.2]
  | none :: pl, o :: l, k, a, h => by simp [inv2Walk_len vs pl l _ _ h.2]
  | [], _ :: _, _, _, h => h.elim
  | some _ :: _, [], _, _, h => h.elim
  | none :: _, [], _, _, h => h.elim
/-- The region. -/
theorem region_inv (I : (Nat → Bool) → (Nat → Value) → World → Prop) {pl : List (Option Value)} {id : Nat} {a : Act} {w : World} {l : List Oper} (hm : P.follows .mixedOrders = true) (hB : relB l.toArray = true) (h0 : ∀ vs, I (fun _ => false) vs w.drew)
    (h : ∀ vs, inv2Walk P l.toArray I Q vs pl l 0 a) : (Code.region id l.toArray true).wp P Q a w := by
  refine wp_region_any hm ?_
  have sp := fun vs hf => inv2_spec (P := P) (ops := l.toArray) (I := I) (Q := Q) pl vs hf a pl l 0 a (fun j => by simp) (fun j => by simp) (by simp) rfl (h vs)
  have e0 : (fun j => (Array.replicate l.toArray.size false).getD j false) = fun _ => false := funext fun j => by simp [Array.getD]
  have hv0 : fitsL pl (fun k => match pl[k]? with | some (some v) => v | _ => undef) := fun k v hk => by simp only [hk]
  have h1 := inv_sound (P := P) (ops := l.toArray) (Q := Q) (I := fun L vs w => fitsL pl vs ∧ I L vs w) hB (a0 := a) (fun i o ho vs L w hI hL hw => (sp vs hI.1).1 i o (Nat.zero_le _) ho L w hI.2 hL hw) (fun L vs w hL hI => (sp vs hI.1).2 L w hL hI.2) l.toArray.size (Array.replicate l.toArray.size false) (fun k => match pl[k]? with | some (some v) => v | _ => undef) w.drew (by simp)
    (by unfold left; exact Nat.le_trans List.countP_le_length (by simp)) (by rw [e0]; exact ⟨hv0, h0 _⟩) (fun j hj => by simp [Array.getD] at hj)
  have e : frL l.toArray a (fun k => match pl[k]? with | some (some v) => v | _ => undef) (fun j => (Array.replicate l.toArray.size false).getD j false) l.toArray.size = a := by
    have := frL_congr (ops := l.toArray) a (vs := (fun k => match pl[k]? with | some (some v) => v | _ => undef)) (vs' := fun _ => undef) (L := fun j => (Array.replicate l.toArray.size false).getD j false) (L' := fun j => decide (j < 0)) l.toArray.size (fun j hj => ⟨by simp [Array.getD], fun hl => by simp [Array.getD] at hl⟩)
    rw [this, ← frm_frL a (fun _ => undef) 0 _ (Nat.zero_le _)]
    rfl
  rw [e] at h1
  exact h1
variable {o : Oper} {l : List Oper} {a : Act} {k : Nat} {pl : List (Option Value)} {vs : Nat → Value}
/-- One value, and the world as it is. -/
theorem inv_val (v : Value) (hw : Region.wanted o (yielded ops a.tmps) = true) (hI : ∀ L w, I L vs w → I (updN L k true) vs w) (hy : ∀ L w, I L vs w → (execOp a.eval o).run P w = .ok (.value v) w)
    (hk : inv2Walk P ops I Q vs pl l (k + 1) (a.put o.dst v)) : inv2Walk P ops I Q vs (some v :: pl) (o :: l) k a :=
  ⟨fun L w h _ _ => .inl ⟨hw, gives_value (hy L w h) ⟨rfl, hI L w h⟩ trivial⟩, hk⟩
theorem inv_skip (hw : Region.wanted o (yielded ops a.tmps) = false) (hI : ∀ L w, I L vs w → I (updN L k true) vs w) (hk : inv2Walk P ops I Q vs pl l (k + 1) (a.put o.dst undef)) : inv2Walk P ops I Q vs (some undef :: pl) (o :: l) k a :=
  ⟨fun L w h _ _ => .inr ⟨hw, rfl, hI L w h⟩, hk⟩
/-- An operation of which something holds. -/
theorem inv_op (hw : Region.wanted o (yielded ops a.tmps) = true) (hy : ∀ L w, I L vs w → L k = false → (∀ j, waits o j = true → L j = true) → GivesR P (fun _ _ => True) w (fun u w' => I (updN L k true) (updN vs k u) w') ((execOp a.eval o).run P w))
    (hk : inv2Walk P ops I Q vs pl l (k + 1) (a.put o.dst (vs k))) : inv2Walk P ops I Q vs (none :: pl) (o :: l) k a :=
  ⟨fun L w h hL hw2 => .inl ⟨hw, hy L w h hL hw2⟩, hk⟩
theorem inv_end (h : ∀ L w, (∀ j, j < ops.size → L j = true) → I L vs w → Q .normal a w) : inv2Walk P ops I Q vs [] [] k a := h
end

/-! ### Two new blocks -/
def ptr2 (g : Nat) : Value := .pointer (some ⟨g, 0, none⟩)
/-- Two new blocks of a kind; a lies in the one behind operation s1, b in the other behind s2. -/
def TwoI (w5 : World) (ty : TypeId) (z a b : Array Value) (i1 i2 s1 s2 : Nat) (L : Nat → Bool) (vs : Nat → Value) (w : World) : Prop :=
  Only [] w5 w ∧ (L i1 = true → ∃ g, vs i1 = ptr2 g ∧ w5.heap.size ≤ g ∧ Bk w g ty (if L s1 = true then a else z)) ∧ (L i2 = true → ∃ g, vs i2 = ptr2 g ∧ w5.heap.size ≤ g ∧ Bk w g ty (if L s2 = true then b else z)) ∧
    (L i1 = true → L i2 = true → vs i1 ≠ vs i2) ∧ (L s1 = true → L i1 = true) ∧ (L s2 = true → L i2 = true)
section
variable {w5 w w' : World} {ty : TypeId} {z a b : Array Value} {i1 i2 s1 s2 : Nat} {L : Nat → Bool} {vs : Nat → Value}
theorem ptr2_inj {g h : Nat} (e : ptr2 g = ptr2 h) : g = h := by
  injection e with e
  injection e with e
  injection e with e
theorem TwoI.start (w5 : World) (ty : TypeId) (z a b : Array Value) (i1 i2 s1 s2 : Nat) (vs : Nat → Value) : TwoI w5 ty z a b i1 i2 s1 s2 (fun _ => false) vs w5.drew :=
  ⟨(Only.refl [] w5).drew, (by simp), (by simp), (by simp), (by simp), (by simp)⟩
theorem TwoI.keep (h : TwoI w5 ty z a b i1 i2 s1 s2 L vs w) (o' : Only [] w w') : TwoI w5 ty z a b i1 i2 s1 s2 L vs w' := by
  obtain ⟨o, h4, h5, h6, h7, h8⟩ := h
  exact ⟨o.then o', fun hl => by obtain ⟨g, e, hg, hb⟩ := h4 hl; exact ⟨g, e, hg, hb.only o' (by simp)⟩, fun hl => by obtain ⟨g, e, hg, hb⟩ := h5 hl; exact ⟨g, e, hg, hb.only o' (by simp)⟩, h6, h7, h8⟩
theorem TwoI.pure {k : Nat} (h : TwoI w5 ty z a b i1 i2 s1 s2 L vs w) (hk : i1 ≠ k ∧ i2 ≠ k ∧ s1 ≠ k ∧ s2 ≠ k) : TwoI w5 ty z a b i1 i2 s1 s2 (updN L k true) vs w := by
  obtain ⟨o, h4, h5, h6, h7, h8⟩ := h
  obtain ⟨k1, k2, k3, k4⟩ := hk
  unfold TwoI
  rw [updN_ne _ _ k1, updN_ne _ _ k2, updN_ne _ _ k3, updN_ne _ _ k4]
  exact ⟨o, h4, h5, h6, h7, h8⟩
theorem TwoI.alloc1 (h : TwoI w5 ty z a b i1 i2 s1 s2 L vs w) (hL : L i1 = false) (d1 : i2 ≠ i1) (d2 : s1 ≠ i1) (d3 : s2 ≠ i1) : TwoI w5 ty z a b i1 i2 s1 s2 (updN L i1 true) (updN vs i1 (ptr2 w.heap.size)) (w.alloc (.cells z ty)) := by
  have hsz := h.1.size
  have hb := Bk.new w ty z
  have hlt : ∀ g, L i2 = true → vs i2 = ptr2 g → g < w.heap.size := fun g hl e => by
    obtain ⟨g', e', _, hb'⟩ := h.2.2.1 hl
    rw [e] at e'
    obtain rfl := ptr2_inj e'
    exact hb'.lt
  obtain ⟨o, h4, h5, h6, h7, h8⟩ := h.keep ((Only.refl [] w).alloc (.cells z ty))
  have h6f : L s1 = false := by
    cases e : L s1 with
    | false => rfl
    | true => rw [h7 e] at hL; cases hL
  unfold TwoI
  rw [updN_self, updN_self, updN_ne _ _ d1, updN_ne _ _ d1, updN_ne _ _ d2, updN_ne _ _ d3]
  refine ⟨o, fun _ => ⟨_, rfl, hsz, by rw [h6f]; exact hb⟩, h5, fun _ hl e => ?_, fun _ => rfl, h8⟩
  obtain ⟨g, e2, _, _⟩ := h5 hl
  have := hlt g hl e2
  rw [e2] at e
  have := ptr2_inj e
  omega
theorem TwoI.alloc2 (h : TwoI w5 ty z a b i1 i2 s1 s2 L vs w) (hL : L i2 = false) (d1 : i1 ≠ i2) (d2 : s1 ≠ i2) (d3 : s2 ≠ i2) : TwoI w5 ty z a b i1 i2 s1 s2 (updN L i2 true) (updN vs i2 (ptr2 w.heap.size)) (w.alloc (.cells z ty)) := by
  have hsz := h.1.size
  have hb := Bk.new w ty z
  have hlt : ∀ g, L i1 = true → vs i1 = ptr2 g → g < w.heap.size := fun g hl e => by
    obtain ⟨g', e', _, hb'⟩ := h.2.1 hl
    rw [e] at e'
    obtain rfl := ptr2_inj e'
    exact hb'.lt
  obtain ⟨o, h4, h5, h6, h7, h8⟩ := h.keep ((Only.refl [] w).alloc (.cells z ty))
  have h6f : L s2 = false := by
    cases e : L s2 with
    | false => rfl
    | true => rw [h8 e] at hL; cases hL
  unfold TwoI
  rw [updN_self, updN_self, updN_ne _ _ d1, updN_ne _ _ d1, updN_ne _ _ d2, updN_ne _ _ d3]
  refine ⟨o, h4, fun _ => ⟨_, rfl, hsz, by rw [h6f]; exact hb⟩, fun hl _ e => ?_, h7, fun _ => rfl⟩
  obtain ⟨g, e2, _, _⟩ := h4 hl
  have := hlt g hl e2
  rw [e2] at e
  have := ptr2_inj e
  omega
theorem TwoI.store1 (h : TwoI w5 ty z a b i1 i2 s1 s2 L vs w) {g : Nat} {u : Value} (hl : L i1 = true) (hv : vs i1 = ptr2 g) (ho : Only [g] w w') (hs : ∀ c, Bk w g ty c → (c = z ∨ c = a) → Bk w' g ty a) (d1 : i1 ≠ s1) (d2 : i2 ≠ s1) (d3 : s2 ≠ s1) :
    TwoI w5 ty z a b i1 i2 s1 s2 (updN L s1 true) (updN vs s1 u) w' := by
  obtain ⟨o, h4, h5, h6, h7, h8⟩ := h
  obtain ⟨g', e', hg, hb⟩ := h4 hl
  rw [hv] at e'
  obtain rfl := ptr2_inj e'
  have hs : Bk w' g ty a := hs _ hb (by cases L s1 <;> simp)
  unfold TwoI
  rw [updN_ne _ _ d1, updN_ne _ _ d1, updN_ne _ _ d2, updN_ne _ _ d2, updN_self, updN_ne _ _ d3]
  refine ⟨o.trans ho (fun q hq => .inr (by simp at hq; omega)), fun _ => ⟨g, hv, hg, by rw [if_pos rfl]; exact hs⟩, fun hl5 => ?_, h6, fun _ => hl, h8⟩
  obtain ⟨g2, e2, hg2, hb2⟩ := h5 hl5
  have hne : g2 ≠ g := fun e => h6 hl hl5 (by rw [hv, e2, e])
  exact ⟨g2, e2, hg2, hb2.only ho (by simpa using hne)⟩
theorem TwoI.store2 (h : TwoI w5 ty z a b i1 i2 s1 s2 L vs w) {g : Nat} {u : Value} (hl : L i2 = true) (hv : vs i2 = ptr2 g) (ho : Only [g] w w') (hs : ∀ c, Bk w g ty c → (c = z ∨ c = b) → Bk w' g ty b) (d1 : i1 ≠ s2) (d2 : i2 ≠ s2) (d3 : s1 ≠ s2) :
    TwoI w5 ty z a b i1 i2 s1 s2 (updN L s2 true) (updN vs s2 u) w' := by
  obtain ⟨o, h4, h5, h6, h7, h8⟩ := h
  obtain ⟨g', e', hg, hb⟩ := h5 hl
  rw [hv] at e'
  obtain rfl := ptr2_inj e'
  have hs : Bk w' g ty b := hs _ hb (by cases L s2 <;> simp)
  unfold TwoI
  rw [updN_ne _ _ d1, updN_ne _ _ d1, updN_ne _ _ d2, updN_ne _ _ d2, updN_self, updN_ne _ _ d3]
  refine ⟨o.trans ho (fun q hq => .inr (by simp at hq; omega)), fun hl4 => ?_, fun _ => ⟨g, hv, hg, by rw [if_pos rfl]; exact hs⟩, h6, h7, fun _ => hl⟩
  obtain ⟨g2, e2, hg2, hb2⟩ := h4 hl4
  have hne : g2 ≠ g := fun e => h6 hl4 hl (by rw [hv, e2, e])
  exact ⟨g2, e2, hg2, hb2.only ho (by simpa using hne)⟩
end
end Go.Proofs.Ythaodlegpjedoaa
