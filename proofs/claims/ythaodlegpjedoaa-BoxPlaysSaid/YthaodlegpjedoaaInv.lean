/-
  A region that draws its order, by what always holds: of those operations that have come up, of their values and of the world (two new blocks are apart, whichever comes first).
-/
import Derived.Test.YthaodlegpjedoaaRel
namespace Go.Proofs.Ythaodlegpjedoaa
open Go

def updN {α : Type} (f : Nat → α) (i : Nat) (x : α) : Nat → α := fun j => if j = i then x else f j
theorem updN_self {α : Type} (f : Nat → α) (i : Nat) (x : α) : updN f i x i = x := by simp [updN]
theorem updN_ne {α : Type} (f : Nat → α) {i j : Nat} (x : α) (h : j ≠ i) : updN f i x j = f j := by simp [updN, h]
section
variable {P : Program} {ops : Array Oper} {Q : Exit → Act → World → Prop} {I : (Nat → Bool) → (Nat → Value) → World → Prop}
def invStep (P : Program) (ops : Array Oper) (I : (Nat → Bool) → (Nat → Value) → World → Prop) (vs : Nat → Value) (o : Oper) (k : Nat) (a : Act) : Prop :=
  ∀ L w, I L vs w → L k = false → (∀ j, waits o j = true → L j = true) → stepR P ops (fun _ _ => True) a o w (fun u w' => I (updN L k true) (updN vs k u) w')
theorem inv_sound (hB : relB ops = true) {a0 : Act}
    (hstep : ∀ i o, ops[i]? = some o → ∀ vs, invStep P ops I vs o i (frm ops a0 vs i))
    (hfin : ∀ L vs w, (∀ j, j < ops.size → L j = true) → I L vs w → Q .normal (frm ops a0 vs ops.size) w) :
    ∀ (fuel : Nat) (listed : Array Bool) (vs : Nat → Value) (w : World), listed.size = ops.size → left (fun j => listed.getD j false) ops.size ≤ fuel → I (fun j => listed.getD j false) vs w →
      (∀ j, listed.getD j false = true → ∀ o, ops[j]? = some o → ∀ i, waits o i = true → listed.getD i false = true) →
      wpAny P .any ops Q fuel listed (frL ops a0 vs (fun j => listed.getD j false) ops.size) w := by
  obtain ⟨hlow, hpair, hsel⟩ := relB_spec hB
  have hdst : ∀ i j, i < j → ∀ d, dstOf ops i = some d → dstOf ops j ≠ some d := fun i j hij d hi hj => by
    unfold dstOf at hi hj
    cases hoi : ops[i]? with
    | none => rw [hoi] at hi; cases hi
    | some oi =>
      cases hoj : ops[j]? with
      | none => rw [hoj] at hj; cases hj
      | some oj =>
        rw [hoi] at hi
        rw [hoj] at hj
        exact (hpair i j oi oj hij hoi hoj).2 d hi hj
  have hall : ∀ (listed : Array Bool), listed.size = ops.size → Region.ready .any ops listed = [] → ∀ j, j < ops.size → listed.getD j false = true := by
    intro listed hsz hr j
    induction j using Nat.strongRecOn with
    | _ j ih =>
      intro hj
      cases hl : listed.getD j false with
      | true => rfl
      | false =>
        exfalso
        have hm : j ∈ Region.ready .any ops listed := by
          rw [mem_ready]
          refine ⟨?_, ops[j], Array.getElem?_eq_getElem hj, fun e he hb => ?_⟩
          · have hjl : j < listed.size := by omega
            simp [Array.getD, hjl] at hl ⊢
            exact hl
          · have := hlow j _ (Array.getElem?_eq_getElem hj) e he hb
            exact ih _ this (by omega)
        rw [hr] at hm
        cases hm
  have hend : ∀ (listed : Array Bool) (vs : Nat → Value) (w : World), (∀ j, j < ops.size → listed.getD j false = true) → I (fun j => listed.getD j false) vs w →
      Q .normal (frL ops a0 vs (fun j => listed.getD j false) ops.size) w := by
    intro listed vs w h1 hf
    have e : frL ops a0 vs (fun j => listed.getD j false) ops.size = frm ops a0 vs ops.size := by
      rw [frm_frL a0 vs ops.size ops.size (Nat.le_refl _)]
      exact frL_congr a0 _ (fun j hj => ⟨by rw [h1 j hj]; simp [hj], fun _ => rfl⟩)
    rw [e]
    exact hfin _ vs w h1 hf
  intro fuel
  induction fuel with
  | zero =>
    intro listed vs w hsz hle hf hi
    have h1 := left_zero (Nat.le_zero.1 hle)
    refine ⟨?_, hend listed vs w h1 hf⟩
    cases hr : Region.ready .any ops listed with
    | nil => rfl
    | cons x xs =>
      exfalso
      have hx : x ∈ Region.ready .any ops listed := by rw [hr]; simp
      obtain ⟨h0, o, ho, _⟩ := mem_ready.1 hx
      have hlt := (Array.getElem?_eq_some_iff.1 ho).1
      have h2 := h1 x hlt
      have hxl : x < listed.size := by omega
      simp [Array.getD, hxl] at h0 h2
      rw [h0] at h2
      cases h2
  | succ fuel ih =>
    intro listed vs w hsz hle hf hi
    refine ⟨fun hr => hend listed vs w (hall listed hsz hr) hf, fun i him => ?_⟩
    obtain ⟨h0, o, ho, hwait⟩ := mem_ready.1 him
    have hlt := (Array.getElem?_eq_some_iff.1 ho).1
    have hil : i < listed.size := by omega
    have hun : listed.getD i false = false := by
      simp [Array.getD, hil] at h0 ⊢
      exact h0
    have hw8 : ∀ j, waits o j = true → listed.getD j false = true := by
      intro j hj
      unfold waits at hj
      rw [Array.any_eq_true] at hj
      obtain ⟨x, hx, hb⟩ := hj
      obtain ⟨e, he⟩ : ∃ e, e = o.after[x] := ⟨_, rfl⟩
      rw [← he] at hb
      replace he : e ∈ o.after := by rw [he]; exact Array.getElem_mem hx
      simp only [Bool.and_eq_true, beq_iff_eq] at hb
      obtain ⟨hb1, rfl⟩ := hb
      exact hwait e he hb1
    have hsame := eval_at (ops := ops) (a := frL ops a0 vs (fun j => listed.getD j false) ops.size) (a' := frm ops a0 vs i) (hsel i o · · ho) (fun t htl => by
      rw [frm_frL a0 vs i ops.size (by omega)]
      refine frL_at a0 vs _ fun j hj hne hd => ?_
      unfold dstOf at hd
      rw [Array.getElem?_eq_getElem hj] at hd
      rcases Nat.lt_trichotomy j i with hji | hji | hji
      · rcases (hpair j i _ o hji (Array.getElem?_eq_getElem hj) ho).1 with h3 | h3
        · exact hne (by rw [hw8 j h3]; simp [hji])
        · exact (Oper.apart_spec h3).1 t hd htl
      · subst hji
        exact hne (by rw [hun]; simp)
      · rcases (hpair i j o _ hji ho (Array.getElem?_eq_getElem hj)).1 with h3 | h3
        · cases hlj : listed.getD j false with
          | false => exact hne (by rw [hlj]; simp; omega)
          | true =>
            have := (hi j hlj) _ (Array.getElem?_eq_getElem hj) i h3
            rw [hun] at this
            cases this
        · exact (Oper.apart_spec h3).2.2 t hd htl)
    have hst2 := hstep i o ho vs _ w hf hun hw8
    unfold stepR at hst2
    rw [← hsame.1, ← hsame.2] at hst2
    have hset : ∀ j, (listed.setIfInBounds i true).getD j false = if j = i then true else listed.getD j false := by
      intro j
      by_cases hji : j = i
      · subst hji; simp [hil]
      · rw [getD_set_ne false (Ne.symm hji), if_neg hji]
    have go : ∀ u w', I (updN (fun j => listed.getD j false) i true) (updN vs i u) w' → wpAny P .any ops Q fuel (listed.setIfInBounds i true) ((frL ops a0 vs (fun j => listed.getD j false) ops.size).put o.dst u) w' := by
      intro u w' hu
      have hdo : o.dst = dstOf ops i := by unfold dstOf; rw [ho]; rfl
      rw [hdo, frL_put hdst a0 vs _ i u hun ops.size hlt]
      have hfun : (fun j => if j = i then true else listed.getD j false) = (fun j => (listed.setIfInBounds i true).getD j false) := funext fun j => (hset j).symm
      have hleft := left_set (L := fun j => listed.getD j false) hun ops.size hlt
      unfold updN at hu
      rw [hfun] at hleft hu ⊢
      refine ih (listed.setIfInBounds i true) _ w' (by simpa using hsz) (by omega) hu fun j hj => ?_
      rw [hset] at hj
      by_cases hji : j = i
      · subst hji
        intro o' ho' k hk
        rw [ho] at ho'
        injection ho' with ho'
        subst ho'
        rw [hset]
        split
        · rfl
        · exact hw8 k hk
      · rw [if_neg hji] at hj
        intro o' ho' k hk
        rw [hset]
        split
        · rfl
        · exact hi j hj o' ho' k hk
    unfold wpOp
    simp only [ho]
    rcases hst2 with ⟨hw, hg⟩ | ⟨hw, hu⟩
    · simp only [hw, if_true]
      left
      unfold Oper.wp
      generalize (execOp (frL ops a0 vs (fun j => listed.getD j false) ops.size).eval o).run P w = r at hg ⊢
      cases r with
      | ok n w' =>
        cases n <;> simp only [GivesR, Oper.upon] at hg ⊢
        case value u => exact go u w' hg.1
        case skip => exact go undef w' hg.1
        case enter f args =>
          refine Calls.mono hg fun e w'' he => ?_
          obtain ⟨u, rfl, h3, _⟩ := he
          exact go u w'' h3
      | halt x w' => simp only [GivesR] at hg
    · simp only [hw, Bool.false_eq_true, if_false]
      exact go undef w hu

theorem gives_call {T : World → World → Prop} {φ : Value → World → Prop} {w : World} {r : Result Next} {f : FuncId} {args : Array Value} (hr : r = .ok (.enter f args) w) (hc : Calls P f args w fun e w'' => ∃ u, e = .returned u ∧ φ u w'' ∧ T w w'') : GivesR P T w φ r := by
  rw [hr]; exact hc
/-- The steps in the order of the text. -/
def invWalk (P : Program) (ops : Array Oper) (I : (Nat → Bool) → (Nat → Value) → World → Prop) (Q : Exit → Act → World → Prop) (vs : Nat → Value) : List Oper → Nat → Act → Prop
  | [], _, a => ∀ L w, (∀ j, j < ops.size → L j = true) → I L vs w → Q .normal a w
  | o :: l, k, a => invStep P ops I vs o k a ∧ invWalk P ops I Q vs l (k + 1) (a.put o.dst (vs k))
theorem invWalk_spec (vs : Nat → Value) (a0 : Act) : ∀ (l : List Oper) (k : Nat) (a : Act), (∀ j, ops[k + j]? = l[j]?) → k + l.length = ops.size → a = frm ops a0 vs k → invWalk P ops I Q vs l k a →
    (∀ i o, k ≤ i → ops[i]? = some o → invStep P ops I vs o i (frm ops a0 vs i)) ∧ (∀ L w, (∀ j, j < ops.size → L j = true) → I L vs w → Q .normal (frm ops a0 vs ops.size) w)
  | [], k, a, _, hs, ha, h => by
    have hs : k = ops.size := by simpa using hs
    subst hs
    refine ⟨fun i o hi ho => ?_, by rw [← ha]; exact h⟩
    have := (Array.getElem?_eq_some_iff.1 ho).1
    omega
  | o :: l, k, a, hl, hs, ha, h => by
    have ho : ops[k]? = some o := by have := hl 0; simpa using this
    have hdo : o.dst = dstOf ops k := by unfold dstOf; rw [ho]; rfl
    have r := invWalk_spec vs a0 l (k + 1) (a.put o.dst (vs k)) (fun j => by have := hl (j + 1); rw [show k + 1 + j = k + (j + 1) by omega]; simpa using this) (by simp at hs; omega) (by rw [ha, hdo]; rfl) h.2
    refine ⟨fun i o' hi ho' => ?_, r.2⟩
    by_cases e : i = k
    · subst e
      rw [ho] at ho'
      injection ho' with ho'
      subst ho'
      rw [← ha]
      exact h.1
    · exact r.1 i o' (by omega) ho'
/-- The region. -/
theorem wp_region_inv (I : (Nat → Bool) → (Nat → Value) → World → Prop) {id : Nat} {a : Act} {w : World} {l : List Oper} (hm : P.follows .mixedOrders = true) (hB : relB l.toArray = true) (h0 : ∀ vs, I (fun _ => false) vs w.drew)
    (h : ∀ vs, invWalk P l.toArray I Q vs l 0 a) : (Code.region id l.toArray true).wp P Q a w := by
  refine wp_region_any hm ?_
  have sp := fun vs => invWalk_spec (P := P) (ops := l.toArray) (I := I) (Q := Q) vs a l 0 a (fun j => by simp) (by simp) rfl (h vs)
  have e0 : (fun j => (Array.replicate l.toArray.size false).getD j false) = fun _ => false := funext fun j => by simp [Array.getD]
  have h1 := inv_sound (P := P) (ops := l.toArray) (Q := Q) (I := I) hB (a0 := a) (fun i o ho vs => (sp vs).1 i o (Nat.zero_le _) ho) (fun L vs w hL hI => (sp vs).2 L w hL hI) l.toArray.size (Array.replicate l.toArray.size false) (fun _ => undef) w.drew (by simp)
    (by unfold left; exact Nat.le_trans List.countP_le_length (by simp)) (by rw [e0]; exact h0 _) (fun j hj => by simp [Array.getD] at hj)
  have e : frL l.toArray a (fun _ => undef) (fun j => (Array.replicate l.toArray.size false).getD j false) l.toArray.size = a := by
    have := frL_congr (ops := l.toArray) a (vs := fun _ => undef) (vs' := fun _ => undef) (L := fun j => (Array.replicate l.toArray.size false).getD j false) (L' := fun j => decide (j < 0)) l.toArray.size (fun j hj => ⟨by simp [Array.getD], fun _ => rfl⟩)
    rw [this, ← frm_frL a (fun _ => undef) 0 _ (Nat.zero_le _)]
    rfl
  rw [e] at h1
  exact h1
end
end Go.Proofs.Ythaodlegpjedoaa
