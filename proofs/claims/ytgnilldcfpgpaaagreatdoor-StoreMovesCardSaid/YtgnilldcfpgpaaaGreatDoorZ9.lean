/-
  Texts of the seat, laid one behind the other: Inv2 VCall VCallX CRefEnc SUser SBox.
-/
import Derived.Test.YtgnilldcfpgpaaaGreatDoorZ8
import Derived.Test.YtgnilldcfpgpaaaGreatDoorZ5
import Derived.Test.YtgnilldcfpgpaaaGreatDoorZ4
import Derived.Lib.ConvBytes
import Derived.Test.YtgnilldcfpgpaaaGreatDoorZ2
import Derived.Laws.ResultCell
namespace Go.Proofs.YtgnilldcfpgpaaaGreatDoor
open Go Go.RowKit Go.Instr
section
variable {P : Program} {ops : Array Oper} {Q : Exit → Act → World → Prop} {I : (Nat → Bool) → (Nat → Value) → World → Prop}
def fitsL (pl : List (Option Value)) (vs : Nat → Value) : Prop := ∀ k v, pl[k]? = some (some v) → vs k = v
def inv2Walk (P : Program) (ops : Array Oper) (I : (Nat → Bool) → (Nat → Value) → World → Prop) (Q : Exit → Act → World → Prop) (vs : Nat → Value) : List (Option Value) → List Oper → Nat → Act → Prop
  | [], [], _, a => ∀ L w, (∀ j, j < ops.size → L j = true) → I L vs w → Q .normal a w
  | some v :: pl, o :: l, k, a => (∀ L w, I L vs w → L k = false → (∀ j, waits o j = true → L j = true) → stepR P ops (fun _ _ => True) a o w (fun u w' => u = v ∧ I (updN L k true) vs w')) ∧ inv2Walk P ops I Q vs pl l (k + 1) (a.put o.dst v)
  | none :: pl, o :: l, k, a => (∀ L w, I L vs w → L k = false → (∀ j, waits o j = true → L j = true) → stepR P ops (fun _ _ => True) a o w (fun u w' => I (updN L k true) (updN vs k u) w')) ∧ inv2Walk P ops I Q vs pl l (k + 1) (a.put o.dst (vs k))
  | [], _ :: _, _, _ => False
  | _ :: _, [], _, _ => False
theorem stepR.mono {a : Act} {o : Oper} {w : World} {φ ψ : Value → World → Prop} (h : stepR P ops (fun _ _ => True) a o w φ) (hm : ∀ u w', φ u w' → ψ u w') : stepR P ops (fun _ _ => True) a o w ψ := by
  unfold stepR at *
  rcases h with ⟨h1, h2⟩ | ⟨h1, h2⟩
  · refine .inl ⟨h1, ?_⟩
    generalize (execOp a.eval o).run P w = r at h2 ⊢
    cases r with
    | ok n w' =>
      cases n <;> simp only [GivesR] at h2 ⊢
      case value u => exact ⟨hm _ _ h2.1, trivial⟩
      case skip => exact ⟨hm _ _ h2.1, trivial⟩
      case enter f args => exact Calls.mono h2 fun e w'' he => by obtain ⟨u, e1, e2, e3⟩ := he; exact ⟨u, e1, hm _ _ e2, e3⟩
    | halt x w' => simp only [GivesR] at h2
  · exact .inr ⟨h1, hm _ _ h2⟩
theorem inv2_spec (plAll : List (Option Value)) (vs : Nat → Value) (hf : fitsL plAll vs) (a0 : Act) : ∀ (pl : List (Option Value)) (l : List Oper) (k : Nat) (a : Act), (∀ j, plAll[k + j]? = pl[j]?) → (∀ j, ops[k + j]? = l[j]?) → k + l.length = ops.size → a = frm ops a0 vs k → inv2Walk P ops I Q vs pl l k a →
    (∀ i o, k ≤ i → ops[i]? = some o → ∀ L w, I L vs w → L i = false → (∀ j, waits o j = true → L j = true) → stepR P ops (fun _ _ => True) (frm ops a0 vs i) o w (fun u w' => fitsL plAll (updN vs i u) ∧ I (updN L i true) (updN vs i u) w')) ∧
      (∀ L w, (∀ j, j < ops.size → L j = true) → I L vs w → Q .normal (frm ops a0 vs ops.size) w)
  | [], [], k, a, _, _, hs, ha, h => by
    have hs : k = ops.size := by simpa using hs
    subst hs
    refine ⟨fun i o hi ho => ?_, by rw [← ha]; exact h⟩
    have := (Array.getElem?_eq_some_iff.1 ho).1
    omega
  | x :: pl, o :: l, k, a, hp, hl, hs, ha, h => by
    have ho : ops[k]? = some o := by have := hl 0; simpa using this
    have hpk : plAll[k]? = some x := by have := hp 0; simpa using this
    have hdo : o.dst = dstOf ops k := by unfold dstOf; rw [ho]; rfl
    have nexts : ∀ u, vs k = u → inv2Walk P ops I Q vs pl l (k + 1) (a.put o.dst u) → _ := fun u hu hh => inv2_spec plAll vs hf a0 pl l (k + 1) (a.put o.dst u) (fun j => by have := hp (j + 1); rw [show k + 1 + j = k + (j + 1) by omega]; simpa using this)
      (fun j => by have := hl (j + 1); rw [show k + 1 + j = k + (j + 1) by omega]; simpa using this) (by simp at hs; omega) (by rw [ha, hdo, ← hu]; rfl) hh
    have self : ∀ v, vs k = v → updN vs k v = vs := fun v hv => funext fun j => by
      unfold updN
      split
      · rename_i e; rw [e, hv]
      · rfl
    cases x with
    | some v =>
      have hv : vs k = v := hf k v hpk
      have r := nexts v hv h.2
      refine ⟨fun i o' hi ho' => ?_, r.2⟩
      by_cases e : i = k
      · subst e
        rw [ho] at ho'
        injection ho' with ho'
        subst ho'
        rw [← ha]
        intro L w hI hL hw
        refine (h.1 L w hI hL hw).mono fun u w' hh => ?_
        obtain ⟨rfl, h2⟩ := hh
        rw [self _ hv]
        exact ⟨hf, h2⟩
      · exact r.1 i o' (by omega) ho'
    | none =>
      have r := nexts (vs k) rfl h.2
      refine ⟨fun i o' hi ho' => ?_, r.2⟩
      by_cases e : i = k
      · subst e
        rw [ho] at ho'
        injection ho' with ho'
        subst ho'
        rw [← ha]
        intro L w hI hL hw
        refine (h.1 L w hI hL hw).mono fun u w' hh => ⟨fun j v hj => ?_, hh⟩
        by_cases e : j = i
        · subst e
          rw [hpk] at hj
          cases hj
        · rw [updN_ne _ _ e]
          exact hf j v hj
      · exact r.1 i o' (by omega) ho'
  | [], _ :: _, _, _, _, _, _, _, h => h.elim
  | some _ :: _, [], _, _, _, _, _, _, h => h.elim
  | none :: _, [], _, _, _, _, _, _, h => h.elim
theorem region_inv (I : (Nat → Bool) → (Nat → Value) → World → Prop) {pl : List (Option Value)} {id : Nat} {a : Act} {w : World} {l : List Oper} (hm : P.follows .mixedOrders = true) (hB : relB l.toArray = true) (h0 : ∀ vs, I (fun _ => false) vs w.drew)
    (h : ∀ vs, inv2Walk P l.toArray I Q vs pl l 0 a) : (Code.region id l.toArray true).wp P Q a w := by
  refine wp_region_any hm ?_
  have sp := fun vs hf => inv2_spec (P := P) (ops := l.toArray) (I := I) (Q := Q) pl vs hf a pl l 0 a (fun j => by simp) (fun j => by simp) (by simp) rfl (h vs)
  have e0 : (fun j => (Array.replicate l.toArray.size false).getD j false) = fun _ => false := funext fun j => by simp [Array.getD]
  have hv0 : fitsL pl (fun k => match pl[k]? with | some (some v) => v | _ => undef) := fun k v hk => by simp only [hk]
  have h1 := inv_sound (P := P) (ops := l.toArray) (Q := Q) (I := fun L vs w => fitsL pl vs ∧ I L vs w) hB (a0 := a) (fun i o ho vs L w hI hL hw => (sp vs hI.1).1 i o (Nat.zero_le _) ho L w hI.2 hL hw) (fun L vs w hL hI => (sp vs hI.1).2 L w hL hI.2) l.toArray.size (Array.replicate l.toArray.size false) (fun k => match pl[k]? with | some (some v) => v | _ => undef) w.drew (by simp)
    (by unfold left; exact Nat.le_trans List.countP_le_length (by simp)) (by rw [e0]; exact ⟨hv0, h0 _⟩) (fun j hj => by simp [Array.getD] at hj)
  have e : frL l.toArray a (fun k => match pl[k]? with | some (some v) => v | _ => undef) (fun j => (Array.replicate l.toArray.size false).getD j false) l.toArray.size = a := by
    have := frL_congr (ops := l.toArray) a (vs := (fun k => match pl[k]? with | some (some v) => v | _ => undef)) (vs' := fun _ => undef) (L := fun j => (Array.replicate l.toArray.size false).getD j false) (L' := fun j => decide (j < 0)) l.toArray.size (fun j hj => ⟨by simp [Array.getD], fun hl => by simp [Array.getD] at hl⟩)
    rw [this, ← frm_frL a (fun _ => undef) 0 _ (Nat.zero_le _)]
    rfl
  rw [e] at h1
  exact h1
variable {o : Oper} {l : List Oper} {a : Act} {k : Nat} {pl : List (Option Value)} {vs : Nat → Value}
theorem inv_val (v : Value) (hw : Region.wanted o (yielded ops a.tmps) = true) (hI : ∀ L w, I L vs w → I (updN L k true) vs w) (hy : ∀ L w, I L vs w → (execOp a.eval o).run P w = .ok (.value v) w)
    (hk : inv2Walk P ops I Q vs pl l (k + 1) (a.put o.dst v)) : inv2Walk P ops I Q vs (some v :: pl) (o :: l) k a :=
  ⟨fun L w h _ _ => .inl ⟨hw, gives_value (hy L w h) ⟨rfl, hI L w h⟩ trivial⟩, hk⟩
theorem inv_op (hw : Region.wanted o (yielded ops a.tmps) = true) (hy : ∀ L w, I L vs w → L k = false → (∀ j, waits o j = true → L j = true) → GivesR P (fun _ _ => True) w (fun u w' => I (updN L k true) (updN vs k u) w') ((execOp a.eval o).run P w))
    (hk : inv2Walk P ops I Q vs pl l (k + 1) (a.put o.dst (vs k))) : inv2Walk P ops I Q vs (none :: pl) (o :: l) k a :=
  ⟨fun L w h hL hw2 => .inl ⟨hw, hy L w h hL hw2⟩, hk⟩
theorem inv_end (h : ∀ L w, (∀ j, j < ops.size → L j = true) → I L vs w → Q .normal a w) : inv2Walk P ops I Q vs [] [] k a := h
end
def ptr2 (g : Nat) : Value := .pointer (some ⟨g, 0, none⟩)
def TwoI (w5 : World) (ty : TypeId) (z a b : Array Value) (i1 i2 s1 s2 : Nat) (L : Nat → Bool) (vs : Nat → Value) (w : World) : Prop :=
  Only [] w5 w ∧ (L i1 = true → ∃ g, vs i1 = ptr2 g ∧ w5.heap.size ≤ g ∧ Bk w g ty (if L s1 = true then a else z)) ∧ (L i2 = true → ∃ g, vs i2 = ptr2 g ∧ w5.heap.size ≤ g ∧ Bk w g ty (if L s2 = true then b else z)) ∧
    (L i1 = true → L i2 = true → vs i1 ≠ vs i2) ∧ (L s1 = true → L i1 = true) ∧ (L s2 = true → L i2 = true)
section
variable {w5 w w' : World} {ty : TypeId} {z a b : Array Value} {i1 i2 s1 s2 : Nat} {L : Nat → Bool} {vs : Nat → Value}
theorem ptr2_inj {g h : Nat} (e : ptr2 g = ptr2 h) : g = h := by
  injection e with e
  injection e with e
  injection e with e
theorem TwoI.start (w5 : World) (ty : TypeId) (z a b : Array Value) (i1 i2 s1 s2 : Nat) (vs : Nat → Value) : TwoI w5 ty z a b i1 i2 s1 s2 (fun _ => false) vs w5.drew :=
  ⟨(Only.refl [] w5).drew, (by simp), (by simp), (by simp), (by simp), (by simp)⟩
theorem TwoI.keep (h : TwoI w5 ty z a b i1 i2 s1 s2 L vs w) (o' : Only [] w w') : TwoI w5 ty z a b i1 i2 s1 s2 L vs w' := by
  obtain ⟨o, h4, h5, h6, h7, h8⟩ := h
  exact ⟨o.then o', fun hl => by obtain ⟨g, e, hg, hb⟩ := h4 hl; exact ⟨g, e, hg, hb.only o' (by simp)⟩, fun hl => by obtain ⟨g, e, hg, hb⟩ := h5 hl; exact ⟨g, e, hg, hb.only o' (by simp)⟩, h6, h7, h8⟩
theorem TwoI.pure {k : Nat} (h : TwoI w5 ty z a b i1 i2 s1 s2 L vs w) (hk : i1 ≠ k ∧ i2 ≠ k ∧ s1 ≠ k ∧ s2 ≠ k) : TwoI w5 ty z a b i1 i2 s1 s2 (updN L k true) vs w := by
  obtain ⟨o, h4, h5, h6, h7, h8⟩ := h
  obtain ⟨k1, k2, k3, k4⟩ := hk
  unfold TwoI
  rw [updN_ne _ _ k1, updN_ne _ _ k2, updN_ne _ _ k3, updN_ne _ _ k4]
  exact ⟨o, h4, h5, h6, h7, h8⟩
theorem TwoI.alloc1 (h : TwoI w5 ty z a b i1 i2 s1 s2 L vs w) (hL : L i1 = false) (d1 : i2 ≠ i1) (d2 : s1 ≠ i1) (d3 : s2 ≠ i1) : TwoI w5 ty z a b i1 i2 s1 s2 (updN L i1 true) (updN vs i1 (ptr2 w.heap.size)) (w.alloc (.cells z ty)) := by
  have hsz := h.1.size
  have hb := Bk.new w ty z
  have hlt : ∀ g, L i2 = true → vs i2 = ptr2 g → g < w.heap.size := fun g hl e => by
    obtain ⟨g', e', _, hb'⟩ := h.2.2.1 hl
    rw [e] at e'
    obtain rfl := ptr2_inj e'
    exact hb'.lt
  obtain ⟨o, h4, h5, h6, h7, h8⟩ := h.keep ((Only.refl [] w).alloc (.cells z ty))
  have h6f : L s1 = false := by
    cases e : L s1 with
    | false => rfl
    | true => rw [h7 e] at hL; cases hL
  unfold TwoI
  rw [updN_self, updN_self, updN_ne _ _ d1, updN_ne _ _ d1, updN_ne _ _ d2, updN_ne _ _ d3]
  refine ⟨o, fun _ => ⟨_, rfl, hsz, by rw [h6f]; exact hb⟩, h5, fun _ hl e => ?_, fun _ => rfl, h8⟩
  obtain ⟨g, e2, _, _⟩ := h5 hl
  have := hlt g hl e2
  rw [e2] at e
  have := ptr2_inj e
  omega
theorem TwoI.alloc2 (h : TwoI w5 ty z a b i1 i2 s1 s2 L vs w) (hL : L i2 = false) (d1 : i1 ≠ i2) (d2 : s1 ≠ i2) (d3 : s2 ≠ i2) : TwoI w5 ty z a b i1 i2 s1 s2 (updN L i2 true) (updN vs i2 (ptr2 w.heap.size)) (w.alloc (.cells z ty)) := by
  have hsz := h.1.size
  have hb := Bk.new w ty z
  have hlt : ∀ g, L i1 = true → vs i1 = ptr2 g → g < w.heap.size := fun g hl e => by
    obtain ⟨g', e', _, hb'⟩ := h.2.1 hl
    rw [e] at e'
    obtain rfl := ptr2_inj e'
    exact hb'.lt
  obtain ⟨o, h4, h5, h6, h7, h8⟩ := h.keep ((Only.refl [] w).alloc (.cells z ty))
  have h6f : L s2 = false := by
    cases e : L s2 with
    | false => rfl
    | true => rw [h8 e] at hL; cases hL
  unfold TwoI
  rw [updN_self, updN_self, updN_ne _ _ d1, updN_ne _ _ d1, updN_ne _ _ d2, updN_ne _ _ d3]
  refine ⟨o, h4, fun _ => ⟨_, rfl, hsz, by rw [h6f]; exact hb⟩, fun hl _ e => ?_, h7, fun _ => rfl⟩
  obtain ⟨g, e2, _, _⟩ := h4 hl
  have := hlt g hl e2
  rw [e2] at e
  have := ptr2_inj e
  omega
theorem TwoI.store1 (h : TwoI w5 ty z a b i1 i2 s1 s2 L vs w) {g : Nat} {u : Value} (hl : L i1 = true) (hv : vs i1 = ptr2 g) (ho : Only [g] w w') (hs : ∀ c, Bk w g ty c → (c = z ∨ c = a) → Bk w' g ty a) (d1 : i1 ≠ s1) (d2 : i2 ≠ s1) (d3 : s2 ≠ s1) :
    TwoI w5 ty z a b i1 i2 s1 s2 (updN L s1 true) (updN vs s1 u) w' := by
  obtain ⟨o, h4, h5, h6, h7, h8⟩ := h
  obtain ⟨g', e', hg, hb⟩ := h4 hl
  rw [hv] at e'
  obtain rfl := ptr2_inj e'
  have hs : Bk w' g ty a := hs _ hb (by cases L s1 <;> simp)
  unfold TwoI
  rw [updN_ne _ _ d1, updN_ne _ _ d1, updN_ne _ _ d2, updN_ne _ _ d2, updN_self, updN_ne _ _ d3]
  refine ⟨o.trans ho (fun q hq => .inr (by simp at hq; omega)), fun _ => ⟨g, hv, hg, by rw [if_pos rfl]; exact hs⟩, fun hl5 => ?_, h6, fun _ => hl, h8⟩
  obtain ⟨g2, e2, hg2, hb2⟩ := h5 hl5
  have hne : g2 ≠ g := fun e => h6 hl hl5 (by rw [hv, e2, e])
  exact ⟨g2, e2, hg2, hb2.only ho (by simpa using hne)⟩
theorem TwoI.store2 (h : TwoI w5 ty z a b i1 i2 s1 s2 L vs w) {g : Nat} {u : Value} (hl : L i2 = true) (hv : vs i2 = ptr2 g) (ho : Only [g] w w') (hs : ∀ c, Bk w g ty c → (c = z ∨ c = b) → Bk w' g ty b) (d1 : i1 ≠ s2) (d2 : i2 ≠ s2) (d3 : s1 ≠ s2) :
    TwoI w5 ty z a b i1 i2 s1 s2 (updN L s2 true) (updN vs s2 u) w' := by
  obtain ⟨o, h4, h5, h6, h7, h8⟩ := h
  obtain ⟨g', e', hg, hb⟩ := h5 hl
  rw [hv] at e'
  obtain rfl := ptr2_inj e'
  have hs : Bk w' g ty b := hs _ hb (by cases L s2 <;> simp)
  unfold TwoI
  rw [updN_ne _ _ d1, updN_ne _ _ d1, updN_ne _ _ d2, updN_ne _ _ d2, updN_self, updN_ne _ _ d3]
  refine ⟨o.trans ho (fun q hq => .inr (by simp at hq; omega)), fun hl4 => ?_, fun _ => ⟨g, hv, hg, by rw [if_pos rfl]; exact hs⟩, h6, h7, fun _ => hl⟩
  obtain ⟨g2, e2, hg2, hb2⟩ := h4 hl4
  have hne : g2 ≠ g := fun e => h6 hl4 hl (by rw [hv, e2, e])
  exact ⟨g2, e2, hg2, hb2.only ho (by simpa using hne)⟩
end
end Go.Proofs.YtgnilldcfpgpaaaGreatDoor
namespace Go.Proofs.YtgnilldcfpgpaaaGreatDoor
open Go.RowKit Go.Instr
section
variable {P : Program} {ops : Array Oper} {Q : Exit → Act → World → Prop} {I : (Nat → Bool) → (Nat → Value) → World → Prop} {o : Oper} {l : List Oper} {a : Act} {k : Nat} {pl : List (Option Value)} {vs : Nat → Value}
theorem inv_valw (v : Value) (hw : Region.wanted o (yielded ops a.tmps) = true) (hI : ∀ L w, I L vs w → I (updN L k true) vs w) (hy : ∀ L w, I L vs w → (∀ j, waits o j = true → L j = true) → (execOp a.eval o).run P w = .ok (.value v) w)
    (hk : inv2Walk P ops I Q vs pl l (k + 1) (a.put o.dst v)) : inv2Walk P ops I Q vs (some v :: pl) (o :: l) k a :=
  ⟨fun L w h _ hw2 => .inl ⟨hw, gives_value (hy L w h hw2) ⟨rfl, hI L w h⟩ trivial⟩, hk⟩
end
end Go.Proofs.YtgnilldcfpgpaaaGreatDoor
namespace Go.Proofs.YtgnilldcfpgpaaaGreatDoor
open Go.RowKit Go.Instr
abbrev XW := Option Addr × Nat × Option Addr × Nat
section
variable {w0 w w' : World} {C0 : Nat → Prop} {n ng : Nat} {l : List Mg} {gl : List Int} {tup box p2 : XW → Value} {cs : XW → Array Value} {z : Array Value} {ic im ix iy iz ia is : Nat} {L : Nat → Bool} {vs : Nat → Value}
theorem no_of {a b : Bool} (h : a = true → b = true) (hb : b = false) : a = false := by
  cases a
  · rfl
  · rw [h rfl] at hb; cases hb
end
end Go.Proofs.YtgnilldcfpgpaaaGreatDoor
namespace Go.Proofs.YtgnilldcfpgpaaaGreatDoor
open Go.RowKit Go.Instr
def EncCR (w : World) (c : Ch) (e : Ending) (w' : World) : Prop :=
  (isC c = true ∧ ∃ A' c', e = .returned (.tuple #[.slice A' (encC c).length c', .int .i64 0]) ∧ Own w' 5 A' (encC c).length c' (bvs (encC c)) ∧ Only [] w w' ∧ ∀ k ∈ blks A', w.heap.size ≤ k) ∨
  (isC c = false ∧ e = .returned (.tuple #[.slice none 0 0, .int .i64 1]) ∧ Only [] w w')
end Go.Proofs.YtgnilldcfpgpaaaGreatDoor
namespace Go.Proofs.YtgnilldcfpgpaaaGreatDoor
open Go.RowKit Go.Maps
def UsR (K : Nat → Prop) (w : World) (pass : List UInt8) (bs' : List Bx) (v : Value) (w' : World) : Prop := ∃ mb' lbs, v = usv pass mb' ∧ BsIs K w' mb' lbs ∧ lbs.map (·.b) = bs' ∧ Only [] w w'
set_option maxRecDepth 100000 in
theorem having_any {K : Nat → Prop} {w : World} {mb : Option Nat} {bs : List Lb} (pass : List UInt8) (h : BsIs K w mb bs) (hK : ∀ x, w.heap.size ≤ x → K x) (hl : bs.length ≤ 1000) (b : Bx) {A : Option Addr} {c : Nat} (hb : Ms K w A b.l.length b.l) (hn : b.name.length ≤ 1000) :
    Calls Tryz.prog 154 #[usv pass mb, bxv b A c] w fun e w' => ∃ v, e = .returned v ∧ UsR K w pass (putL bkey b (bs.map (·.b))) v w' := by
  have hsz : (St b.name).size ≤ maxLen := by rw [St_size]; unfold maxLen; omega
  have o3 : Only [] w (((w.alloc (.cells #[.string (St pass), .map mb] 154)).alloc (.cells #[.string (St b.name), .int .i64 b.val, .int .i64 b.next, .slice A b.l.length c] 71)).alloc (.cells #[.string ⟨#[]⟩, .map none] 154)) := ((((Only.refl [] w).alloc _).alloc _).alloc _)
  have HW := Lib.hid (withB_any (h.1.keep o3) (St b.name) hsz (St b.name) b.val b.next A b.l.length c (by rw [List.length_map]; omega))
  have HP := Lib.hid (fun (w' : World) (m' : Nat) (hm : KvAt shpB w' m' (putL Prod.fst (kvB ⟨b, A, c⟩) (bs.map kvB))) (o : Only [] w w') (hn : w.heap.size ≤ m') => BsIs.put h hK (x := ⟨b, A, c⟩) hb hm o hn)
  have HPB : Hid (putL bkey b (bs.map (·.b)) = (putL Lb.key ⟨b, A, c⟩ bs).map (·.b)) := put_b ⟨b, A, c⟩ bs
  have HB0 := Lib.hid (((Bk.new w 154 #[.string (St pass), .map mb]).alloc (.cells #[.string (St b.name), .int .i64 b.val, .int .i64 b.next, .slice A b.l.length c] 71)).alloc (.cells #[.string ⟨#[]⟩, .map none] 154))
  have hB1 := (Bk.new (w.alloc (.cells #[.string (St pass), .map mb] 154)) 71 #[.string (St b.name), .int .i64 b.val, .int .i64 b.next, .slice A b.l.length c]).alloc (.cells #[.string ⟨#[]⟩, .map none] 154)
  have hB2 := Bk.new ((w.alloc (.cells #[.string (St pass), .map mb] 154)).alloc (.cells #[.string (St b.name), .int .i64 b.val, .int .i64 b.next, .slice A b.l.length c] 71)) 154 #[.string ⟨#[]⟩, .map none]
  rw [World.size_alloc] at hB1
  rw [World.size_alloc, World.size_alloc] at hB2
  have HB2 := Lib.hid hB2
  have HO3 := Lib.hid o3
  obtain ⟨c0, c1⟩ := bk_two HB0.out
  obtain ⟨d0, d1, d2, d3⟩ := bk_four hB1
  unfold usv bxv
  obtain ⟨t, ht⟩ : ∃ t, St pass = t := ⟨_, rfl⟩
  rw [ht] at HW HB0 HB2 HO3 c0 c1 d0 d1 d2 d3 ⊢
  have HT := Lib.hid ht
  clear o3 hB1 hB2 ht h hK hb
  go_enter Tryz.func154, Tryz.ntmps154
  go_wp2_with (go_at_call 198; go_must (refine HW.out.mono ?_); rintro e w2 ⟨m', rfl, K2, O2, M2⟩; have B0 := HB0.out.only O2 (by simp); have B2 := HB2.out.only O2 (by simp); have e0 := B0.cell 0; have e1 := B0.cell 1; have f1 := B0.free 1; have l0 := B0.lt; have g0 := B2.cell 0; have g1 := B2.cell 1; have h0 := B2.free 0; have h1 := B2.free 1; have l2 := B2.lt)
  have OW : Only [w.heap.size, w.heap.size + 1 + 1] w2 (((w2.setCell ⟨w.heap.size, 1, none⟩ (.map (some m'))).setCell ⟨w.heap.size + 1 + 1, 0, none⟩ (.string t)).setCell ⟨w.heap.size + 1 + 1, 1, none⟩ (.map (some m'))) := only_store2 ((Only.refl _ w2).setCell (p := ⟨w.heap.size, 1, none⟩) (.inl (by simp)) _) (.inl (by simp)) _ _
  have OA := (HO3.out.then O2).trans OW (fun x hx => .inr (by simp at hx; omega))
  have hm3 : w.heap.size + 1 + 1 + 1 ≤ m' := by simpa using M2
  have HN := HP.out _ m' (K2.only OW (by simp; omega)) OA (by omega)
  exact us_ret (s := 4) (by kernel_rfl) (w.heap.size + 1 + 1) _ _ rfl (bk_store2 (B2.far (p := ⟨w.heap.size, 1, none⟩) (by show _ ≠ w.heap.size; omega) _) _ _) ⟨_, rfl, some m', _, by unfold usv; rw [HT.out], HN, HPB.out.symm, OA⟩
end Go.Proofs.YtgnilldcfpgpaaaGreatDoor
namespace Go.Proofs.YtgnilldcfpgpaaaGreatDoor
theorem rises_mono {a b : Int} (h : a ≤ b) : ∀ (l : List Mg) (last : Int), rises a last l = true → rises b last l = true
  | [], _, _ => rfl
  | m :: r, last, hr => by
    simp only [rises, Bool.and_eq_true] at hr ⊢
    obtain ⟨h1, h2⟩ := hr
    refine ⟨?_, rises_mono h r _ h2⟩
    rw [mgOk_iff] at h1 ⊢
    omega
theorem lastU_lt {next : Int} {l : List Mg} (h : rises next 0 l = true) (hl : l ≠ []) : lastU l l.length < next := by
  obtain ⟨k, hk⟩ : ∃ k, l.length = k + 1 := ⟨l.length - 1, by have := List.length_pos_iff.2 hl; omega⟩
  rw [hk]
  simp only [lastU]
  rw [List.getElem?_eq_getElem (show k < l.length by omega)]
  exact (rises_drop next l 0 k (by omega) h).2.2.1
theorem addE_zero {b : Bx} {f d : Int} {n : Nat} (h : addE b f d n = 0) : markOk f d = true ∧ n ≤ 1200 ∧ b.l.length < 24 ∧ b.next < 1048576 := by
  unfold addE at h
  split at h
  · cases h
  · rename_i h1
    split at h
    · cases h
    · split at h
      · cases h
      · split at h
        · cases h
        · exact ⟨by simpa using h1, by omega, by omega, by omega⟩
theorem isB_add {b : Bx} (h : isB b = true) (f d : Int) (p : List UInt8) : isB (addB b f d p) = true := by
  unfold addB
  split
  · rename_i he
    obtain ⟨h1, h2, h3, h4⟩ := addE_zero he
    rw [isB_iff] at h ⊢
    obtain ⟨g1, g2, g3, g4, g5⟩ := h
    refine ⟨g1, g2, ⟨by show 1 ≤ b.next + 1; omega, by show b.next + 1 ≤ 1048576; omega⟩, by show (b.l ++ [_]).length ≤ 24; rw [List.length_append]; simp; omega, ?_⟩
    show rises (b.next + 1) 0 (b.l ++ [⟨b.next, f, d, p⟩]) = true
    rw [rises_snoc, Bool.and_eq_true]
    refine ⟨rises_mono (by omega) _ _ g5, ?_⟩
    rw [mgOk_iff]
    rw [markOk_iff] at h1
    refine ⟨?_, by show b.next < b.next + 1; omega, h1, h2⟩
    show _ < b.next
    split
    · omega
    · rename_i hl
      exact lastU_lt g5 hl
  · exact h
theorem isB_zero {b : Bx} (h : isB b = true) : b.l.length ≤ 1000000 ∧ (∀ m ∈ b.l, m.body.length ≤ 1000000) ∧ 0 ≤ b.next ∧ b.name.length ≤ 12 ∧ b.l.length ≤ 24 ∧ (∀ m ∈ b.l, m.body.length ≤ 1200) := by
  rw [isB_iff] at h
  obtain ⟨g1, g2, g3, g4, g5⟩ := h
  unfold nameL at g1
  simp only [Bool.and_eq_true, decide_eq_true_eq] at g1
  exact ⟨by omega, fun m hm => by have := (rises_at g5 hm).2.2.2; omega, by omega, g1.1.2, g4, fun m hm => (rises_at g5 hm).2.2.2⟩
theorem isB_markB {b : Bx} (h : isB b = true) (us : List Int) (mode f : Int) (hf : ∀ g, 0 ≤ g ∧ g ≤ 31 → 0 ≤ applyV mode g f ∧ applyV mode g f ≤ 31) : isB (markB b us mode f) = true := by
  rw [isB_iff] at h ⊢
  obtain ⟨g1, g2, g3, g4, g5⟩ := h
  refine ⟨g1, g2, g3, by show (b.l.map _).length ≤ 24; rw [List.length_map]; exact g4, ?_⟩
  show rises b.next 0 (b.l.map (markM us mode f)) = true
  have key : ∀ (l : List Mg) (last : Int), rises b.next last l = true → rises b.next last (l.map (markM us mode f)) = true := by
    intro l
    induction l with
    | nil => exact fun _ _ => rfl
    | cons m r ih =>
      intro last hr
      simp only [rises, List.map_cons, Bool.and_eq_true] at hr ⊢
      obtain ⟨h1, h2⟩ := hr
      have hu : (markM us mode f m).uid = m.uid := by unfold markM; split <;> rfl
      refine ⟨?_, by rw [hu]; exact ih _ h2⟩
      rw [mgOk_iff] at h1 ⊢
      rw [hu]
      unfold markM
      split
      · exact ⟨h1.1, h1.2.1, ⟨hf _ h1.2.2.1.1, h1.2.2.1.2⟩, h1.2.2.2⟩
      · exact h1
  exact key _ _ g5
theorem copyL_skip {ids : List Int} {m : Mg} (h : hasU ids m.uid = false) (to : Bx) (r : List Mg) : copyL ids to (m :: r) = copyL ids to r := by
  rw [copyL, if_neg (by rw [h]; simp)]
theorem copyL_hit {ids : List Int} {m : Mg} (h : hasU ids m.uid = true) {to : Bx} (he : addE to m.flags m.date m.body.length = 0) (r : List Mg) : copyL ids to (m :: r) = ((copyL ids (addB to m.flags m.date m.body) r).1, (copyL ids (addB to m.flags m.date m.body) r).2.1, (copyL ids (addB to m.flags m.date m.body) r).2.2 + 1) := by
  rw [copyL, if_pos h, if_pos he]
theorem copyL_err {ids : List Int} {m : Mg} (h : hasU ids m.uid = true) {to : Bx} (he : addE to m.flags m.date m.body.length ≠ 0) (r : List Mg) : copyL ids to (m :: r) = (addE to m.flags m.date m.body.length, to, 0) := by
  rw [copyL, if_pos h, if_neg he]
theorem copyL_app (ids : List Int) : ∀ (p q : List Mg) (to : Bx), (copyL ids to p).1 = 0 → copyL ids to (p ++ q) = ((copyL ids (copyL ids to p).2.1 q).1, (copyL ids (copyL ids to p).2.1 q).2.1, (copyL ids (copyL ids to p).2.1 q).2.2 + (copyL ids to p).2.2)
  | [], q, to, _ => by simp [copyL]
  | m :: r, q, to, h => by
    rw [List.cons_append]
    cases h1 : hasU ids m.uid with
    | true =>
      by_cases h2 : addE to m.flags m.date m.body.length = 0
      · rw [copyL_hit h1 h2] at h ⊢
        rw [copyL_hit h1 h2]
        simp only
        rw [copyL_app ids r q _ h]
        simp [Nat.add_assoc]
      · rw [copyL_err h1 h2] at h
        exact absurd h h2
    | false =>
      rw [copyL_skip h1] at h ⊢
      rw [copyL_skip h1]
      exact copyL_app ids r q to h
theorem copyL_one (ids : List Int) (to : Bx) (m : Mg) : copyL ids to [m] = if hasU ids m.uid then (if addE to m.flags m.date m.body.length = 0 then (0, addB to m.flags m.date m.body, 1) else (addE to m.flags m.date m.body.length, to, 0)) else (0, to, 0) := by
  unfold copyL
  split <;> (try split) <;> rfl
theorem copyL_bad (ids : List Int) : ∀ (p q : List Mg) (to : Bx), (copyL ids to p).1 ≠ 0 → (copyL ids to (p ++ q)).1 = (copyL ids to p).1
  | [], q, to, h => absurd rfl h
  | m :: r, q, to, h => by
    rw [List.cons_append]
    cases h1 : hasU ids m.uid with
    | true =>
      by_cases h2 : addE to m.flags m.date m.body.length = 0
      · rw [copyL_hit h1 h2] at h ⊢
        rw [copyL_hit h1 h2]
        exact copyL_bad ids r q _ h
      · rw [copyL_err h1 h2, copyL_err h1 h2]
    | false =>
      rw [copyL_skip h1] at h ⊢
      rw [copyL_skip h1]
      exact copyL_bad ids r q to h
theorem isB_copyL (ids : List Int) : ∀ (l : List Mg) {to : Bx}, isB to = true → isB (copyL ids to l).2.1 = true
  | [], _, h => h
  | m :: r, to, h => by
    unfold copyL
    split
    · split
      · exact isB_copyL ids r (isB_add h _ _ _)
      · exact h
    · exact isB_copyL ids r h
theorem name_copyL (ids : List Int) : ∀ (l : List Mg) (to : Bx), (copyL ids to l).2.1.name = to.name
  | [], _ => rfl
  | m :: r, to => by
    unfold copyL
    split
    · split
      · show (copyL ids _ r).2.1.name = _
        rw [name_copyL ids r]
        unfold addB
        split <;> rfl
      · rfl
    · exact name_copyL ids r to
theorem copyN_le (ids : List Int) : ∀ (l : List Mg) (to : Bx), (copyL ids to l).2.2 ≤ l.length
  | [], _ => Nat.le_refl _
  | m :: r, to => by
    unfold copyL
    split
    · split
      · have := copyN_le ids r (addB to m.flags m.date m.body)
        show _ + 1 ≤ r.length + 1
        omega
      · exact Nat.zero_le _
    · have := copyN_le ids r to
      rw [List.length_cons]
      omega
theorem name_addB (b : Bx) (f d : Int) (p : List UInt8) : (addB b f d p).name = b.name := by unfold addB; split <;> rfl
end Go.Proofs.YtgnilldcfpgpaaaGreatDoor
