/-
  Texts of the seat, laid one behind the other: Rel Str NMath YMath.
-/
import Derived.Test.YtkcnnbglmckmnaaDoorA1
import Derived.Orders
import Derived.Laws.IdiomStrings
import Derived.Lib.AppendStr
import Derived.Lib.Strings
import Derived.Lib.ItoaNum
namespace Go.Proofs.YtkcnnbglmckmnaaDoor
open Go
inductive Kd where
  | val (c : Value)
  /-- A fact that is told till operation x comes up (9999: for good). -/
  | rel (φ : Value → World → Prop) (x : Nat)
def Kd.ok : Kd → Value → World → Prop
  | .val c, v, _ => v = c
  | .rel φ _, v, w => φ v w
def Kd.till : Kd → Nat
  | .val _ => 9999
  | .rel _ x => x
section
variable {P : Program} {ops : Array Oper} {Q : Exit → Act → World → Prop} {T T0 : World → World → Prop} {w1 : World} {Ws : List Nat}
def GivesR (P : Program) (T : World → World → Prop) (w : World) (φ : Value → World → Prop) : Result Next → Prop
  | .ok (.value u) w' => φ u w' ∧ T w w'
  | .ok (.enter f args) w' => Calls P f args w' (fun e w'' => ∃ u, e = .returned u ∧ φ u w'' ∧ T w w'')
  | .ok .skip w' => φ undef w' ∧ T w w'
  | _ => False
def stepR (P : Program) (ops : Array Oper) (T : World → World → Prop) (a : Act) (o : Oper) (w : World) (φ : Value → World → Prop) : Prop :=
  (Region.wanted o (yielded ops a.tmps) = true ∧ GivesR P T w φ ((execOp a.eval o).run P w)) ∨ (Region.wanted o (yielded ops a.tmps) = false ∧ φ undef w)
def waits (o : Oper) (j : Nat) : Bool := o.after.any fun e => Region.binds .any e && e.on == j
def reachN (ops : Array Oper) (i : Nat) : Nat → Nat → Bool
  | 0, j => i == j
  | n + 1, j => i == j || match ops[j]? with
    | none => false
    | some o => o.after.any fun e => Region.binds .any e && reachN ops i n e.on
def reachB (ops : Array Oper) (i j : Nat) : Bool := reachN ops i ops.size j
def Now (ops : Array Oper) (T0 T : World → World → Prop) (Ws : List Nat) (w1 : World) (k : Nat) (w : World) : Prop := T w1 w ∧ ((Ws.all fun i => reachB ops k i) = true → T0 w1 w)
def Tk (T0 T : World → World → Prop) (Ws : List Nat) (k : Nat) : World → World → Prop := if Ws.contains k = true then T else T0
def Sb (ops : Array Oper) (T0 T : World → World → Prop) (Ws : List Nat) (k x : Nat) : World → World → Prop := if (Ws.any fun i => !reachB ops i k && !reachB ops x i) = true then T else T0
def mayB (ops : Array Oper) (k x : Nat) : Bool := x == 9999 || reachB ops k x
def dstOf (ops : Array Oper) (j : Nat) : Option Tmp := (ops[j]?).bind (·.dst)
def relB (ops : Array Oper) : Bool :=
  Region.noSelect ops && (List.range ops.size).all fun j => match ops[j]? with
    | none => true
    | some oj => (oj.after.all fun e => !Region.binds .any e || decide (e.on < j)) && (List.range j).all fun i => match ops[i]? with
      | none => true
      | some oi => (waits oj i || oi.apart ops oj) && (oi.dst.isNone || oi.dst != oj.dst)
theorem relB_spec (h : relB ops = true) : (∀ (j : Nat) (oj : Oper), ops[j]? = some oj → ∀ e : Edge, e ∈ oj.after → Region.binds .any e = true → e.on < j) ∧
    (∀ (i j : Nat) (oi oj : Oper), i < j → ops[i]? = some oi → ops[j]? = some oj → (waits oj i = true ∨ oi.apart ops oj = true) ∧ ∀ d, oi.dst = some d → oj.dst ≠ some d) ∧
    (∀ (j : Nat) (o : Oper) cs b, ops[j]? = some o → o.op ≠ .select cs b) := by
  unfold relB at h
  rw [Bool.and_eq_true, List.all_eq_true] at h
  obtain ⟨h0, h⟩ := h
  have hj : ∀ j oj, ops[j]? = some oj → _ := fun j oj hoj => by
    have h1 := h j (List.mem_range.2 (Array.getElem?_eq_some_iff.1 hoj).1)
    rw [hoj] at h1
    exact h1
  refine ⟨fun j oj hoj e he hb => ?_, fun i j oi oj hij hoi hoj => ?_, Region.noSelect_spec h0⟩
  · have h1 := hj j oj hoj
    simp only [Bool.and_eq_true, Array.all_eq_true_iff_forall_mem, decide_eq_true_eq, Bool.or_eq_true] at h1
    rcases h1.1 e he with h2 | h2
    · rw [hb] at h2; cases h2
    · exact h2
  · have h1 := hj j oj hoj
    simp only [Bool.and_eq_true, List.all_eq_true] at h1
    have h2 := h1.2 i (List.mem_range.2 hij)
    rw [hoi] at h2
    simp only [Bool.and_eq_true, Bool.or_eq_true] at h2
    refine ⟨h2.1, fun d hd he => ?_⟩
    rcases h2.2 with h3 | h3
    · rw [hd] at h3; cases h3
    · rw [hd, he] at h3; simp at h3
def frL (ops : Array Oper) (a0 : Act) (vs : Nat → Value) (L : Nat → Bool) : Nat → Act
  | 0 => a0
  | n + 1 => if L n = true then (frL ops a0 vs L n).put (dstOf ops n) (vs n) else frL ops a0 vs L n
def frm (ops : Array Oper) (a0 : Act) (vs : Nat → Value) : Nat → Act
  | 0 => a0
  | n + 1 => (frm ops a0 vs n).put (dstOf ops n) (vs n)
theorem put_size (a : Act) (d : Option Tmp) (v : Value) : (a.put d v).tmps.size = a.tmps.size := by
  cases d <;> simp [Act.put]
theorem frL_size (a0 : Act) (vs : Nat → Value) (L : Nat → Bool) : ∀ n, (frL ops a0 vs L n).tmps.size = a0.tmps.size
  | 0 => rfl
  | n + 1 => by
    unfold frL
    split
    · rw [put_size, frL_size]
    · exact frL_size a0 vs L n
theorem frL_congr (a0 : Act) {vs vs' : Nat → Value} {L L' : Nat → Bool} : ∀ n, (∀ j, j < n → L j = L' j ∧ (L j = true → vs j = vs' j)) → frL ops a0 vs L n = frL ops a0 vs' L' n
  | 0, _ => rfl
  | n + 1, h => by
    obtain ⟨h1, h2⟩ := h n (by omega)
    unfold frL
    rw [frL_congr a0 n (fun j hj => h j (by omega)), ← h1]
    split
    · rename_i hl; rw [h2 hl]
    · rfl
theorem frm_frL (a0 : Act) (vs : Nat → Value) (k : Nat) : ∀ n, k ≤ n → frm ops a0 vs k = frL ops a0 vs (fun j => decide (j < k)) n := by
  have base : frm ops a0 vs k = frL ops a0 vs (fun j => decide (j < k)) k := by
    have : ∀ m, m ≤ k → frm ops a0 vs m = frL ops a0 vs (fun j => decide (j < k)) m := by
      intro m
      induction m with
      | zero => intro _; rfl
      | succ m ih =>
        intro hm
        unfold frm frL
        rw [if_pos (by simp; omega), ih (by omega)]
    exact this k (Nat.le_refl _)
  intro n hn
  induction n with
  | zero =>
    have : k = 0 := by omega
    subst this
    exact base
  | succ n ih =>
    by_cases hk : k = n + 1
    · subst hk; exact base
    · unfold frL
      rw [if_neg (by simp; omega)]
      exact ih (by omega)
theorem frL_at (a0 : Act) (vs : Nat → Value) {L L' : Nat → Bool} {t : Tmp} : ∀ n, (∀ j, j < n → L j ≠ L' j → dstOf ops j ≠ some t) → (frL ops a0 vs L n).tmps[t]? = (frL ops a0 vs L' n).tmps[t]?
  | 0, _ => rfl
  | n + 1, h => by
    have ih := frL_at a0 vs n (fun j hj => h j (by omega))
    have put : ∀ (a : Act), dstOf ops n ≠ some t → (a.put (dstOf ops n) (vs n)).tmps[t]? = a.tmps[t]? := fun a hne => by
      cases hd : dstOf ops n with
      | none => rfl
      | some d =>
        have : d ≠ t := fun e => hne (by rw [hd, e])
        simp [Act.put, Array.getElem?_setIfInBounds_ne this]
    unfold frL
    cases h1 : L n <;> cases h2 : L' n <;> simp only [Bool.false_eq_true, if_true, if_false]
    · exact ih
    · rw [put _ (h n (by omega) (by rw [h1, h2]; simp))]; exact ih
    · rw [put _ (h n (by omega) (by rw [h1, h2]; simp))]; exact ih
    · cases hd : dstOf ops n with
      | none => exact ih
      | some d =>
        simp only [Act.put, Array.getElem?_setIfInBounds, frL_size]
        split
        · rfl
        · exact ih
theorem frL_put (hd : ∀ i j, i < j → ∀ d, dstOf ops i = some d → dstOf ops j ≠ some d) (a0 : Act) (vs : Nat → Value) (L : Nat → Bool) (i : Nat) (u : Value) (hL : L i = false) :
    ∀ n, i < n → (frL ops a0 vs L n).put (dstOf ops i) u = frL ops a0 (fun j => if j = i then u else vs j) (fun j => if j = i then true else L j) n := by
  intro n
  induction n with
  | zero => intro h; omega
  | succ n ih =>
    intro hn
    by_cases hin : i = n
    · subst hin
      unfold frL
      simp only [if_true, hL, Bool.false_eq_true, if_false]
      rw [frL_congr a0 (vs := vs) (L := L) (vs' := fun j => if j = i then u else vs j) (L' := fun j => if j = i then true else L j) i (fun j hj => by
        have : j ≠ i := by omega
        simp [this])]
    · have hin' : n ≠ i := by omega
      have h := ih (by omega)
      unfold frL
      simp only [hin', if_false]
      split
      · rw [← h, Act.put_comm]
        intro d h1 h2
        exact hd i n (by omega) d h2 h1
      · exact h
theorem eval_at {a a' : Act} {o : Oper} (hs : ∀ cs b, o.op ≠ .select cs b) (h : ∀ t ∈ o.looksAt ops, a.tmps[t]? = a'.tmps[t]?) :
    execOp a.eval o = execOp a'.eval o ∧ Region.wanted o (yielded ops a.tmps) = Region.wanted o (yielded ops a'.tmps) := by
  refine ⟨execOp_congr o hs fun x hx => ?_, ?_⟩
  · cases x with
    | tmp t =>
      have := h t (List.mem_append_left _ (List.mem_filterMap.2 ⟨.tmp t, by simpa using hx, rfl⟩))
      simp only [Act.eval, Array.getD_eq_getD_getElem?, this]
    | _ => rfl
  · unfold Region.wanted
    cases hg : o.guard with
    | none => rfl
    | some gw =>
      obtain ⟨g, want⟩ := gw
      have hy : yielded ops a.tmps g = yielded ops a'.tmps g := by
        unfold yielded
        cases ht : (ops[g]?).bind (·.dst) with
        | none => rfl
        | some t =>
          have := h t (List.mem_append_right _ (by simp [hg, ht]))
          simp only [Option.bind_some, this]
      simp only [hy]
def KFits (K : Nat → Kd) (vs : Nat → Value) : Prop := ∀ k c, K k = .val c → vs k = c
def left (L : Nat → Bool) (n : Nat) : Nat := (List.range n).countP fun j => !L j
theorem left_zero {L : Nat → Bool} {n : Nat} (h : left L n = 0) : ∀ j, j < n → L j = true := by
  intro j hj
  unfold left at h
  rw [List.countP_eq_zero] at h
  simpa using h j (List.mem_range.2 hj)
theorem left_set {L : Nat → Bool} {i : Nat} (hL : L i = false) : ∀ n, i < n → left (fun j => if j = i then true else L j) n + 1 = left L n := by
  have same : ∀ m, m ≤ i → left (fun j => if j = i then true else L j) m = left L m := by
    intro m hm
    unfold left
    apply List.countP_congr
    intro x hx
    have : x ≠ i := by have := List.mem_range.1 hx; omega
    simp [this]
  intro n
  induction n with
  | zero => intro h; omega
  | succ n ih =>
    intro hn
    have e : ∀ M : Nat → Bool, left M (n + 1) = left M n + if M n = true then 0 else 1 := fun M => by
      unfold left
      rw [List.range_succ, List.countP_append]
      cases hM : M n <;> simp [hM]
    rw [e, e]
    by_cases hin : i = n
    · subst hin
      rw [same i (Nat.le_refl _)]
      simp [hL]
    · have hin' : n ≠ i := by omega
      have := ih (by omega)
      simp only [hin', if_false]
      omega
theorem rel_sound (hB : relB ops = true) (hsmall : ops.size < 9999) (K : Nat → Kd) (hst : ∀ k φ x, K k = .rel φ x → ∀ v w w', φ v w → Sb ops T0 T Ws k x w w' → φ v w') (hrf : ∀ a, T0 a a) (htr0 : ∀ a b c, T0 a b → T0 b c → T0 a c) (htr : ∀ a b c, T a b → T b c → T a c) (hsub : ∀ a b, T0 a b → T a b) (a0 : Act)
    (hstep : ∀ k o, ops[k]? = some o → ∀ vs w, KFits K vs → Now ops T0 T Ws w1 k w → (∀ j, j < k → waits o j = true → mayB ops k (K j).till = true → (K j).ok (vs j) w) → stepR P ops (Tk T0 T Ws k) (frm ops a0 vs k) o w (K k).ok)
    (hfin : ∀ vs w, KFits K vs → T w1 w → (∀ j, j < ops.size → (K j).till = 9999 → (K j).ok (vs j) w) → Q .normal (frm ops a0 vs ops.size) w) :
    ∀ (fuel : Nat) (listed : Array Bool) (vs : Nat → Value) (w : World), listed.size = ops.size → left (fun j => listed.getD j false) ops.size ≤ fuel → KFits K vs → T w1 w → ((∀ i ∈ Ws, listed.getD i false = false) → T0 w1 w) →
      (∀ j, listed.getD j false = true → (listed.getD (K j).till false = false → (K j).ok (vs j) w) ∧ ∀ o, ops[j]? = some o → ∀ i, waits o i = true → listed.getD i false = true) →
      wpAny P .any ops Q fuel listed (frL ops a0 vs (fun j => listed.getD j false) ops.size) w := by
  obtain ⟨hlow, hpair, hsel⟩ := relB_spec hB
  have hdst : ∀ i j, i < j → ∀ d, dstOf ops i = some d → dstOf ops j ≠ some d := fun i j hij d hi hj => by
    unfold dstOf at hi hj
    cases hoi : ops[i]? with
    | none => rw [hoi] at hi; cases hi
    | some oi =>
      cases hoj : ops[j]? with
      | none => rw [hoj] at hj; cases hj
      | some oj =>
        rw [hoi] at hi
        rw [hoj] at hj
        exact (hpair i j oi oj hij hoi hoj).2 d hi hj
  have hstab : ∀ k v w w', (K k).ok v w → Sb ops T0 T Ws k (K k).till w w' → (K k).ok v w' := fun k v w w' h ht => by
    cases hk : K k with
    | val c => rw [hk] at h; exact h
    | rel φ x => rw [hk] at h ht; exact hst k φ x hk v w w' h ht
  -- where nothing is ready all has come up
  have hall : ∀ (listed : Array Bool), listed.size = ops.size → Region.ready .any ops listed = [] → ∀ j, j < ops.size → listed.getD j false = true := by
    intro listed hsz hr j
    induction j using Nat.strongRecOn with
    | _ j ih =>
      intro hj
      cases hl : listed.getD j false with
      | true => rfl
      | false =>
        exfalso
        have hm : j ∈ Region.ready .any ops listed := by
          rw [mem_ready]
          refine ⟨?_, ops[j], Array.getElem?_eq_getElem hj, fun e he hb => ?_⟩
          · have hjl : j < listed.size := by omega
            simp [Array.getD, hjl] at hl ⊢
            exact hl
          · have := hlow j _ (Array.getElem?_eq_getElem hj) e he hb
            exact ih _ this (by omega)
        rw [hr] at hm
        cases hm
  have hend : ∀ (listed : Array Bool) (vs : Nat → Value) (w : World), (∀ j, j < ops.size → listed.getD j false = true) → KFits K vs → T w1 w →
      (∀ j, listed.getD j false = true → (listed.getD (K j).till false = false → (K j).ok (vs j) w) ∧ ∀ o, ops[j]? = some o → ∀ i, waits o i = true → listed.getD i false = true) → listed.getD 9999 false = false →
      Q .normal (frL ops a0 vs (fun j => listed.getD j false) ops.size) w := by
    intro listed vs w h1 hf ht hi hout
    have e : frL ops a0 vs (fun j => listed.getD j false) ops.size = frm ops a0 vs ops.size := by
      rw [frm_frL a0 vs ops.size ops.size (Nat.le_refl _)]
      exact frL_congr a0 _ (fun j hj => ⟨by rw [h1 j hj]; simp [hj], fun _ => rfl⟩)
    rw [e]
    exact hfin vs w hf ht (fun j hj h9 => (hi j (h1 j hj)).1 (by rw [h9]; exact hout))
  intro fuel
  induction fuel with
  | zero =>
    intro listed vs w hsz hle hf ht ht0 hi
    have h1 := left_zero (Nat.le_zero.1 hle)
    refine ⟨?_, hend listed vs w h1 hf ht hi (by simp [Array.getD]; omega)⟩
    cases hr : Region.ready .any ops listed with
    | nil => rfl
    | cons x xs =>
      exfalso
      have hx : x ∈ Region.ready .any ops listed := by rw [hr]; simp
      obtain ⟨h0, o, ho, _⟩ := mem_ready.1 hx
      have hlt := (Array.getElem?_eq_some_iff.1 ho).1
      have h2 := h1 x hlt
      have hxl : x < listed.size := by omega
      simp [Array.getD, hxl] at h0 h2
      rw [h0] at h2
      cases h2
  | succ fuel ih =>
    intro listed vs w hsz hle hf ht ht0 hi
    refine ⟨fun hr => hend listed vs w (hall listed hsz hr) hf ht hi (by simp [Array.getD]; omega), fun i him => ?_⟩
    obtain ⟨h0, o, ho, hwait⟩ := mem_ready.1 him
    have hlt := (Array.getElem?_eq_some_iff.1 ho).1
    have hil : i < listed.size := by omega
    have hun : listed.getD i false = false := by
      simp [Array.getD, hil] at h0 ⊢
      exact h0
    have hw8 : ∀ j, waits o j = true → listed.getD j false = true := by
      intro j hj
      unfold waits at hj
      rw [Array.any_eq_true] at hj
      obtain ⟨x, hx, hb⟩ := hj
      obtain ⟨e, he⟩ : ∃ e, e = o.after[x] := ⟨_, rfl⟩
      rw [← he] at hb
      replace he : e ∈ o.after := by rw [he]; exact Array.getElem_mem hx
      simp only [Bool.and_eq_true, beq_iff_eq] at hb
      obtain ⟨hb1, rfl⟩ := hb
      exact hwait e he hb1
    -- the frame as it stands, and that of the text
    have hsame := eval_at (ops := ops) (a := frL ops a0 vs (fun j => listed.getD j false) ops.size) (a' := frm ops a0 vs i) (hsel i o · · ho) (fun t htl => by
      rw [frm_frL a0 vs i ops.size (by omega)]
      refine frL_at a0 vs _ fun j hj hne hd => ?_
      unfold dstOf at hd
      rw [Array.getElem?_eq_getElem hj] at hd
      rcases Nat.lt_trichotomy j i with hji | hji | hji
      · rcases (hpair j i _ o hji (Array.getElem?_eq_getElem hj) ho).1 with h3 | h3
        · exact hne (by rw [hw8 j h3]; simp [hji])
        · exact (Oper.apart_spec h3).1 t hd htl
      · subst hji
        exact hne (by rw [hun]; simp)
      · rcases (hpair i j o _ hji ho (Array.getElem?_eq_getElem hj)).1 with h3 | h3
        · cases hlj : listed.getD j false with
          | false => exact hne (by rw [hlj]; simp; omega)
          | true =>
            have := (hi j hlj).2 _ (Array.getElem?_eq_getElem hj) i h3
            rw [hun] at this
            cases this
        · exact (Oper.apart_spec h3).2.2 t hd htl)
    have hreach : ∀ n j, reachN ops i n j = true → listed.getD j false = true → False := by
      intro n
      induction n with
      | zero =>
        intro j h1 h2
        unfold reachN at h1
        have : i = j := by simpa using h1
        subst this
        rw [hun] at h2
        cases h2
      | succ n ihn =>
        intro j h1 h2
        unfold reachN at h1
        rw [Bool.or_eq_true] at h1
        rcases h1 with h1 | h1
        · have : i = j := by simpa using h1
          subst this
          rw [hun] at h2
          cases h2
        · cases hoj : ops[j]? with
          | none => rw [hoj] at h1; cases h1
          | some oj =>
            rw [hoj] at h1
            simp only [Array.any_eq_true, Bool.and_eq_true] at h1
            obtain ⟨x, hx, hb, hr⟩ := h1
            refine ihn _ hr ((hi j h2).2 oj hoj _ ?_)
            unfold waits
            rw [Array.any_eq_true]
            exact ⟨x, hx, by simp [hb]⟩
    have hst2 := hstep i o ho vs w hf ⟨ht, fun hr => ht0 fun x hx => by
      cases hl : listed.getD x false with
      | false => rfl
      | true => exact (hreach _ _ (List.all_eq_true.1 hr x hx) hl).elim⟩ (fun j _ hj hm => (hi j (hw8 j hj)).1 (by
      cases hl : listed.getD (K j).till false with
      | false => rfl
      | true =>
        exfalso
        unfold mayB at hm
        rw [Bool.or_eq_true] at hm
        rcases hm with hm | hm
        · have h9 : (K j).till = 9999 := by simpa using hm
          rw [h9] at hl
          have : listed.getD 9999 false = false := by simp [Array.getD]; omega
          rw [this] at hl
          cases hl
        · exact hreach _ _ hm hl))
    unfold stepR at hst2
    rw [← hsame.1, ← hsame.2] at hst2
    have hset : ∀ j, (listed.setIfInBounds i true).getD j false = if j = i then true else listed.getD j false := by
      intro j
      by_cases hji : j = i
      · subst hji; simp [hil]
      · rw [getD_set_ne false (Ne.symm hji), if_neg hji]
    have go : ∀ u w', (K i).ok u w' → Tk T0 T Ws i w w' → wpAny P .any ops Q fuel (listed.setIfInBounds i true) ((frL ops a0 vs (fun j => listed.getD j false) ops.size).put o.dst u) w' := by
      intro u w' hu hTk
      have hT : T w w' := by
        unfold Tk at hTk
        split at hTk
        · exact hTk
        · exact hsub _ _ hTk
      have hclosed : ∀ (L : Array Bool), (∀ j, L.getD j false = true → ∀ o, ops[j]? = some o → ∀ i, waits o i = true → L.getD i false = true) → ∀ x n j, reachN ops x n j = true → L.getD j false = true → L.getD x false = true := by
        intro L hL x n
        induction n with
        | zero =>
          intro j h1 h2
          unfold reachN at h1
          have : x = j := by simpa using h1
          rw [this]; exact h2
        | succ n ihn =>
          intro j h1 h2
          unfold reachN at h1
          rw [Bool.or_eq_true] at h1
          rcases h1 with h1 | h1
          · have : x = j := by simpa using h1
            rw [this]; exact h2
          · cases hoj : ops[j]? with
            | none => rw [hoj] at h1; cases h1
            | some oj =>
              rw [hoj] at h1
              simp only [Array.any_eq_true, Bool.and_eq_true] at h1
              obtain ⟨y, hy, hb, hr⟩ := h1
              refine ihn _ hr (hL j h2 oj hoj _ ?_)
              unfold waits
              rw [Array.any_eq_true]
              exact ⟨y, hy, by simp [hb]⟩
      have hnew : ∀ j, (listed.setIfInBounds i true).getD j false = true → ∀ o, ops[j]? = some o → ∀ i', waits o i' = true → (listed.setIfInBounds i true).getD i' false = true := by
        intro j hj o' ho' k hk
        rw [hset] at hj ⊢
        split
        · rfl
        · by_cases hji : j = i
          · subst hji
            rw [ho] at ho'
            injection ho' with ho'
            subst ho'
            exact hw8 k hk
          · rw [if_neg hji] at hj
            exact (hi j hj).2 o' ho' k hk
      have hSb : ∀ j, listed.getD j false = true → (listed.setIfInBounds i true).getD (K j).till false = false → Sb ops T0 T Ws j (K j).till w w' := by
        intro j hlj htill
        unfold Tk at hTk
        unfold Sb
        split
        · exact hT
        · rename_i hno
          rw [if_neg] at hTk
          · exact hTk
          · intro hc
            refine hno (List.any_eq_true.2 ⟨i, by simpa using hc, ?_⟩)
            rw [Bool.and_eq_true, Bool.not_eq_true', Bool.not_eq_true']
            refine ⟨?_, ?_⟩
            · cases hr : reachB ops i j with
              | false => rfl
              | true => exact (hreach _ _ hr hlj).elim
            · cases hr : reachB ops (K j).till i with
              | false => rfl
              | true =>
                have := hclosed _ hnew _ _ _ hr (by rw [hset, if_pos rfl])
                rw [this] at htill
                cases htill
      have hT0 : (∀ x ∈ Ws, (listed.setIfInBounds i true).getD x false = false) → T0 w1 w' := by
        intro h8
        unfold Tk at hTk
        split at hTk
        · rename_i hc
          have := h8 i (by simpa using hc)
          rw [hset, if_pos rfl] at this
          cases this
        · refine htr0 _ _ _ (ht0 fun x hx => ?_) hTk
          have := h8 x hx
          rw [hset] at this
          split at this
          · cases this
          · exact this
      have hdo : o.dst = dstOf ops i := by unfold dstOf; rw [ho]; rfl
      rw [hdo, frL_put hdst a0 vs _ i u hun ops.size hlt]
      have hfun : (fun j => if j = i then true else listed.getD j false) = (fun j => (listed.setIfInBounds i true).getD j false) := funext fun j => (hset j).symm
      have hfits : KFits K (fun j => if j = i then u else vs j) := fun k c hk => by
        by_cases hki : k = i
        · subst hki
          rw [hk] at hu
          simp only [if_true]
          exact hu
        · simp only [hki, if_false]
          exact hf k c hk
      have hleft := left_set (L := fun j => listed.getD j false) hun ops.size hlt
      rw [hfun] at hleft ⊢
      refine ih (listed.setIfInBounds i true) _ w' (by simpa using hsz) (by omega) hfits (htr _ _ _ ht hT) hT0 fun j hj => ?_
      rw [hset] at hj
      by_cases hji : j = i
      · subst hji
        refine ⟨fun _ => by simpa using hu, fun o' ho' k hk => ?_⟩
        rw [ho] at ho'
        injection ho' with ho'
        subst ho'
        rw [hset]
        split
        · rfl
        · exact hw8 k hk
      · rw [if_neg hji] at hj
        obtain ⟨h3, h4⟩ := hi j hj
        refine ⟨fun h9 => by
          simp only [hji, if_false]
          refine hstab j _ _ _ (h3 ?_) (hSb j hj h9)
          rw [hset] at h9
          split at h9
          · cases h9
          · exact h9, fun o' ho' k hk => ?_⟩
        rw [hset]
        split
        · rfl
        · exact h4 o' ho' k hk
    unfold wpOp
    simp only [ho]
    rcases hst2 with ⟨hw, hg⟩ | ⟨hw, hu⟩
    · simp only [hw, if_true]
      left
      unfold Oper.wp
      generalize (execOp (frL ops a0 vs (fun j => listed.getD j false) ops.size).eval o).run P w = r at hg ⊢
      cases r with
      | ok n w' =>
        cases n <;> simp only [GivesR, Oper.upon] at hg ⊢
        case value u => exact go u w' hg.1 hg.2
        case skip => exact go undef w' hg.1 hg.2
        case enter f args =>
          refine Calls.mono hg fun e w'' he => ?_
          obtain ⟨u, rfl, h3, h4⟩ := he
          exact go u w'' h3 h4
      | halt x w' => simp only [GivesR] at hg
    · simp only [hw, Bool.false_eq_true, if_false]
      exact go undef w hu (by
        unfold Tk
        split
        · exact hsub _ _ (hrf w)
        · exact hrf w)
structure Told where
  of : Nat
  till : Nat
  what : World → Prop
def FactsOf (ops : Array Oper) (o : Oper) (k : Nat) (Φ : List Told) (w : World) : Prop := ∀ p ∈ Φ, waits o p.of = true → mayB ops k p.till = true → p.what w
theorem FactsOf.at_ {o : Oper} {k : Nat} {Φ : List Told} {w : World} (h : FactsOf ops o k Φ w) (i : Nat) {j x : Nat} {ψ : World → Prop} (hi : Φ[i]? = some ⟨j, x, ψ⟩) (hw : waits o j = true) (hm : mayB ops k x = true) : ψ w := h ⟨j, x, ψ⟩ (List.mem_of_getElem? hi) hw hm
theorem facts_at {Φ : List Told} {w : World} (h : ∀ p ∈ Φ, p.till = 9999 → p.what w) (i : Nat) {j : Nat} {ψ : World → Prop} (hi : Φ[i]? = some ⟨j, 9999, ψ⟩) : ψ w := h ⟨j, 9999, ψ⟩ (List.mem_of_getElem? hi) rfl
def relWalk (P : Program) (ops : Array Oper) (T0 T : World → World → Prop) (Ws : List Nat) (w1 : World) (Q : Exit → Act → World → Prop) : List Kd → List Oper → Nat → Act → List Told → Prop
  | [], [], _, a, Φ => ∀ w, T w1 w → (∀ p ∈ Φ, p.till = 9999 → p.what w) → Q .normal a w
  | .val c :: K, o :: l, k, a, Φ => (∀ w, Now ops T0 T Ws w1 k w → FactsOf ops o k Φ w → stepR P ops (Tk T0 T Ws k) a o w (fun v _ => v = c)) ∧ relWalk P ops T0 T Ws w1 Q K l (k + 1) (a.put o.dst c) Φ
  | .rel φ x :: K, o :: l, k, a, Φ => (∀ v w w', φ v w → Sb ops T0 T Ws k x w w' → φ v w') ∧ (∀ w, Now ops T0 T Ws w1 k w → FactsOf ops o k Φ w → stepR P ops (Tk T0 T Ws k) a o w φ) ∧ ∀ v, relWalk P ops T0 T Ws w1 Q K l (k + 1) (a.put o.dst v) (⟨k, x, φ v⟩ :: Φ)
  | _, _, _, _, _ => False
def Shown (P : Program) (ops : Array Oper) (T0 T : World → World → Prop) (Ws : List Nat) (w1 : World) (Q : Exit → Act → World → Prop) (Kf : Nat → Kd) (vs : Nat → Value) (a0 : Act) (k : Nat) : Prop :=
  (∀ (j : Nat) (o : Oper), k ≤ j → ops[j]? = some o → ∀ w, Now ops T0 T Ws w1 j w → (∀ i, i < j → waits o i = true → mayB ops j (Kf i).till = true → (Kf i).ok (vs i) w) → stepR P ops (Tk T0 T Ws j) (frm ops a0 vs j) o w (Kf j).ok) ∧
  (∀ j φ x, k ≤ j → j < ops.size → Kf j = .rel φ x → ∀ v w w', φ v w → Sb ops T0 T Ws j x w w' → φ v w') ∧
  (∀ w, T w1 w → (∀ j, j < ops.size → (Kf j).till = 9999 → (Kf j).ok (vs j) w) → Q .normal (frm ops a0 vs ops.size) w)
theorem relWalk_spec (Kf : Nat → Kd) (vs : Nat → Value) (hf : KFits Kf vs) (a0 : Act) : ∀ (K : List Kd) (l : List Oper) (k : Nat) (a : Act) (Φ : List Told), (∀ j, Kf (k + j) = K.getD j (.val undef)) → (∀ j : Nat, l[j]? = ops[k + j]?) → k ≤ ops.size →
    a = frm ops a0 vs k → (∀ p ∈ Φ, p.of < k ∧ p.till = (Kf p.of).till ∧ ∀ w, (Kf p.of).ok (vs p.of) w → p.what w) → relWalk P ops T0 T Ws w1 Q K l k a Φ → Shown P ops T0 T Ws w1 Q Kf vs a0 k := by
  intro K
  induction K with
  | nil =>
    intro l k a Φ hK hl hk ha hΦ h
    cases l with
    | cons o l => simp only [relWalk] at h
    | nil =>
      have hsz : k = ops.size := by
        have := (hl 0).symm
        simp at this
        omega
      subst hsz
      refine ⟨fun j o hj ho => ?_, fun j φ x hj hj' => by omega, fun w ht hok => ?_⟩
      · have := (Array.getElem?_eq_some_iff.1 ho).1
        omega
      · rw [← ha]
        exact h w ht (fun p hp h9 => (hΦ p hp).2.2 w (hok _ (hΦ p hp).1 (by rw [← (hΦ p hp).2.1]; exact h9)))
  | cons kd K ih =>
    intro l k a Φ hK hl hk ha hΦ h
    have hkk : Kf k = kd := by simpa using hK 0
    have hK' : ∀ j, Kf (k + 1 + j) = K.getD j (.val undef) := fun j => by
      have := hK (j + 1)
      rw [List.getD_cons_succ] at this
      rw [← this]
      congr 1
      omega
    cases l with
    | nil => cases kd <;> simp only [relWalk] at h
    | cons o l =>
      have ho : ops[k]? = some o := by simpa using (hl 0).symm
      have hlt := (Array.getElem?_eq_some_iff.1 ho).1
      have hl' : ∀ j : Nat, l[j]? = ops[k + 1 + j]? := fun j => by
        have := hl (j + 1)
        simpa [Nat.add_assoc, Nat.add_comm 1 j] using this
      have hdo : o.dst = dstOf ops k := by unfold dstOf; rw [ho]; rfl
      have hfr : ∀ v, vs k = v → a.put o.dst v = frm ops a0 vs (k + 1) := fun v hv => by
        unfold frm
        rw [ha, hdo, hv]
      have facts : ∀ w, (∀ i, i < k → waits o i = true → mayB ops k (Kf i).till = true → (Kf i).ok (vs i) w) → FactsOf ops o k Φ w := fun w hi p hp hw hm =>
        (hΦ p hp).2.2 w (hi _ (hΦ p hp).1 hw (by rw [← (hΦ p hp).2.1]; exact hm))
      have mk : ∀ (_ : ∀ w, Now ops T0 T Ws w1 k w → FactsOf ops o k Φ w → stepR P ops (Tk T0 T Ws k) a o w kd.ok) (_ : ∀ φ x, kd = .rel φ x → ∀ v w w', φ v w → Sb ops T0 T Ws k x w w' → φ v w')
          (_ : Shown P ops T0 T Ws w1 Q Kf vs a0 (k + 1)), Shown P ops T0 T Ws w1 Q Kf vs a0 k := fun hd hs rest =>
        ⟨fun j o' hj ho' w ht hi => by
          by_cases hjk : j = k
          · subst hjk
            rw [ho] at ho'
            injection ho' with ho'
            subst ho'
            rw [hkk, ← ha]
            exact hd w ht (facts w hi)
          · exact rest.1 j o' (by omega) ho' w ht hi, fun j φ x hj hj' hφ => by
          by_cases hjk : j = k
          · subst hjk
            rw [hkk] at hφ
            exact hs φ x hφ
          · exact rest.2.1 j φ x (by omega) hj' hφ, rest.2.2⟩
      cases kd with
      | val c =>
        simp only [relWalk] at h
        exact mk h.1 (fun φ x hφ => by cases hφ) (ih l (k + 1) _ Φ hK' hl' (by omega) (hfr c (hf k c hkk)) (fun p hp => ⟨by have := (hΦ p hp).1; omega, (hΦ p hp).2⟩) h.2)
      | rel φ x =>
        simp only [relWalk] at h
        refine mk h.2.1 (fun ψ y hψ => by injection hψ with hψ hy; subst hψ; subst hy; exact h.1) (ih l (k + 1) _ _ hK' hl' (by omega) (hfr (vs k) rfl) (fun p hp => ?_) (h.2.2 (vs k)))
        rcases List.mem_cons.1 hp with rfl | hp
        · refine ⟨by show k < k + 1; omega, by show x = _; rw [hkk]; rfl, fun w hw => ?_⟩
          rw [hkk] at hw
          exact hw
        · exact ⟨by have := (hΦ p hp).1; omega, (hΦ p hp).2⟩
theorem relWalk_length : ∀ (K : List Kd) (l : List Oper) (n : Nat) (a : Act) (Φ : List Told), relWalk P ops T0 T Ws w1 Q K l n a Φ → K.length = l.length := by
  intro K
  induction K with
  | nil => intro l n a Φ h; cases l <;> simp only [relWalk] at h <;> rfl
  | cons kd K ih =>
    intro l n a Φ h
    cases l with
    | nil => cases kd <;> simp only [relWalk] at h
    | cons o l =>
      cases kd <;> simp only [relWalk] at h
      · simp [ih _ _ _ _ h.2]
      · simp [ih _ _ _ _ (h.2.2 undef)]
theorem any_rel (T0 T : World → World → Prop) (Ws : List Nat) (hrf : ∀ a, T0 a a) (htr0 : ∀ a b c, T0 a b → T0 b c → T0 a c) (htr : ∀ a b c, T a b → T b c → T a c) (hsub : ∀ a b, T0 a b → T a b) {a : Act} {w : World} {l : List Oper} {K : List Kd}
    (hB : (relB l.toArray && decide (l.length < 9999)) = true) (h : relWalk P l.toArray T0 T Ws w.drew Q K l 0 a []) : wpAny P .any l.toArray Q l.toArray.size (Array.replicate l.toArray.size false) a w.drew := by
  rw [Bool.and_eq_true] at hB
  obtain ⟨hB, hsz⟩ := hB
  have hsmall : l.toArray.size < 9999 := by simpa using hsz
  have spec := fun vs hf => relWalk_spec (P := P) (ops := l.toArray) (Q := Q) (T := T) (T0 := T0) (Ws := Ws) (w1 := w.drew) (fun k => K.getD k (.val undef)) vs hf a K l 0 a [] (fun j => by rw [Nat.zero_add]) (fun j => by simp) (Nat.zero_le _) rfl (fun p hp => by cases hp) h
  obtain ⟨vs, hvs⟩ : ∃ vs, KFits (fun k => K.getD k (.val undef)) vs := ⟨fun k => match K.getD k (.val undef) with | .val c => c | .rel _ _ => undef, fun k c hk => by simp only [hk]⟩
  have hlen : ∀ k φ x, K.getD k (.val undef) = .rel φ x → k < l.toArray.size := by
    intro k φ x hk
    have e := relWalk_length K l 0 a [] h
    simp only [List.size_toArray]
    rw [← e]
    rcases Nat.lt_or_ge k K.length with h1 | h1
    · exact h1
    · simp only [List.getD_eq_getElem?_getD, List.getElem?_eq_none h1, Option.getD_none] at hk
      cases hk
  have h0 := rel_sound (P := P) (ops := l.toArray) (Q := Q) (T := T) (T0 := T0) (Ws := Ws) (w1 := w.drew) hB hsmall (fun k => K.getD k (.val undef)) (fun k φ x hk => (spec vs hvs).2.1 k φ x (Nat.zero_le _) (hlen k φ x hk) hk) hrf htr0 htr hsub a (fun k o ho vs w hf ht hi => (spec vs hf).1 k o (Nat.zero_le _) ho w ht hi)
    (fun vs w hf ht hi => (spec vs hf).2.2 w ht hi) l.toArray.size (Array.replicate l.toArray.size false) vs w.drew (by simp) (by unfold left; exact Nat.le_trans List.countP_le_length (by simp)) hvs (hsub _ _ (hrf _)) (fun _ => hrf _) (fun j hj => by
      simp [Array.getD] at hj)
  have e : frL l.toArray a vs (fun j => (Array.replicate l.toArray.size false).getD j false) l.toArray.size = a := by
    have := frL_congr (ops := l.toArray) a (vs := vs) (vs' := vs) (L := fun j => (Array.replicate l.toArray.size false).getD j false) (L' := fun j => decide (j < 0)) l.toArray.size (fun j hj => ⟨by simp [Array.getD], fun _ => rfl⟩)
    rw [this, ← frm_frL a vs 0 _ (Nat.zero_le _)]
    rfl
  rw [e] at h0
  exact h0
theorem wp_region_rel (T0 T : World → World → Prop) (Ws : List Nat) (hrf : ∀ a, T0 a a) (htr0 : ∀ a b c, T0 a b → T0 b c → T0 a c) (htr : ∀ a b c, T a b → T b c → T a c) (hsub : ∀ a b, T0 a b → T a b) {id : Nat} {a : Act} {w : World} {l : List Oper} {K : List Kd} (hm : P.follows .mixedOrders = true)
    (hB : (relB l.toArray && decide (l.length < 9999)) = true) (h : relWalk P l.toArray T0 T Ws w.drew Q K l 0 a []) : (Code.region id l.toArray true).wp P Q a w :=
  wp_region_any hm (any_rel T0 T Ws hrf htr0 htr hsub hB h)
variable {o : Oper} {l : List Oper} {a : Act} {k : Nat} {K : List Kd} {Φ : List Told}
theorem Now.pre {w : World} (h : Now ops T0 T Ws w1 k w) (hr : (Ws.all fun i => reachB ops k i) = true) : T0 w1 w := h.2 hr
theorem rel_val (v : Value) (hrf : ∀ a, Tk T0 T Ws k a a) (hw : Region.wanted o (yielded ops a.tmps) = true) (hy : ∀ w, Now ops T0 T Ws w1 k w → FactsOf ops o k Φ w → (execOp a.eval o).run P w = .ok (.value v) w)
    (hk : relWalk P ops T0 T Ws w1 Q K l (k + 1) (a.put o.dst v) Φ) : relWalk P ops T0 T Ws w1 Q (.val v :: K) (o :: l) k a Φ :=
  ⟨fun w ht hf => .inl ⟨hw, by rw [hy w ht hf]; exact ⟨rfl, hrf w⟩⟩, hk⟩
theorem rel_call (v : Value) (f : FuncId) (args : Array Value) (hw : Region.wanted o (yielded ops a.tmps) = true) (hy : ∀ w, Now ops T0 T Ws w1 k w → FactsOf ops o k Φ w → (execOp a.eval o).run P w = .ok (.enter f args) w)
    (hc : ∀ w, Now ops T0 T Ws w1 k w → FactsOf ops o k Φ w → Calls P f args w fun e w' => e = .returned v ∧ Tk T0 T Ws k w w') (hk : relWalk P ops T0 T Ws w1 Q K l (k + 1) (a.put o.dst v) Φ) : relWalk P ops T0 T Ws w1 Q (.val v :: K) (o :: l) k a Φ :=
  ⟨fun w ht hf => .inl ⟨hw, by rw [hy w ht hf]; exact (hc w ht hf).mono fun e w' he => ⟨v, he.1, rfl, he.2⟩⟩, hk⟩
theorem rel_fact_call (φ : Value → World → Prop) (x : Nat) (hs : ∀ v w w', φ v w → Sb ops T0 T Ws k x w w' → φ v w') (hw : Region.wanted o (yielded ops a.tmps) = true)
    (hc : ∀ w, Now ops T0 T Ws w1 k w → FactsOf ops o k Φ w → ∃ f args, (execOp a.eval o).run P w = .ok (.enter f args) w ∧ Calls P f args w fun e w' => ∃ u, e = .returned u ∧ φ u w' ∧ Tk T0 T Ws k w w')
    (hk : ∀ v, relWalk P ops T0 T Ws w1 Q K l (k + 1) (a.put o.dst v) (⟨k, x, φ v⟩ :: Φ)) : relWalk P ops T0 T Ws w1 Q (.rel φ x :: K) (o :: l) k a Φ :=
  ⟨hs, fun w ht hf => .inl ⟨hw, by obtain ⟨f, args, he, hc⟩ := hc w ht hf; rw [he]; exact hc⟩, hk⟩
theorem rel_fact (φ : Value → World → Prop) (x : Nat) (hs : ∀ v w w', φ v w → Sb ops T0 T Ws k x w w' → φ v w') (hw : Region.wanted o (yielded ops a.tmps) = true)
    (hy : ∀ w, Now ops T0 T Ws w1 k w → FactsOf ops o k Φ w → GivesR P (Tk T0 T Ws k) w φ ((execOp a.eval o).run P w)) (hk : ∀ v, relWalk P ops T0 T Ws w1 Q K l (k + 1) (a.put o.dst v) (⟨k, x, φ v⟩ :: Φ)) : relWalk P ops T0 T Ws w1 Q (.rel φ x :: K) (o :: l) k a Φ :=
  ⟨hs, fun w ht hf => .inl ⟨hw, hy w ht hf⟩, hk⟩
theorem rel_end (h : ∀ w, T w1 w → (∀ p ∈ Φ, p.till = 9999 → p.what w) → Q .normal a w) : relWalk P ops T0 T Ws w1 Q [] [] k a Φ := h
theorem gives_value {φ : Value → World → Prop} {w w' : World} {u : Value} {r : Result Next} (hr : r = .ok (.value u) w') (h : φ u w') (ht : T w w') : GivesR P T w φ r := by
  rw [hr]; exact ⟨h, ht⟩
structure OnlyB (B : Nat) (rs : List Nat) (w w' : World) : Prop where
  os : w'.os = w.os
  tape : w'.tape = w.tape
  output : w'.output = w.output
  size : w.heap.size ≤ w'.heap.size
  block : ∀ k, k < B → k < w.heap.size → k ∉ rs → w'.heap[k]? = w.heap[k]?
theorem onlyB_trans {B : Nat} {rs : List Nat} : ∀ a b c : World, OnlyB B rs a b → OnlyB B rs b c → OnlyB B rs a c := fun _ _ _ h k =>
  ⟨k.os.trans h.os, k.tape.trans h.tape, k.output.trans h.output, Nat.le_trans h.size k.size, fun i h1 h2 h3 => (k.block i h1 (Nat.lt_of_lt_of_le h2 h.size) h3).trans (h.block i h1 h2 h3)⟩
theorem OnlyB.of {B : Nat} {rs ss : List Nat} {a b : World} (h : Only ss a b) (hs : ∀ x ∈ ss, x ∈ rs ∨ B ≤ x) : OnlyB B rs a b :=
  ⟨h.os, h.tape, h.output, h.size, fun i h1 h2 h3 => h.block i h2 (fun hm => by rcases hs i hm with h4 | h4; exact h3 h4; omega)⟩
theorem OnlyB.only {rs : List Nat} {a b : World} (h : OnlyB a.heap.size rs a b) : Only rs a b := ⟨h.os, h.tape, h.output, h.size, fun i h1 h2 => h.block i h1 h1 h2⟩
theorem only_trans {rs : List Nat} : ∀ a b c : World, Only rs a b → Only rs b c → Only rs a c := fun _ _ _ h k => h.trans k (fun _ hx => .inl hx)
theorem onlyB_sub {B : Nat} {rs : List Nat} : ∀ a b : World, Only [] a b → OnlyB B rs a b := fun _ _ h => OnlyB.of h (fun _ hx => by cases hx)
theorem Tk_refl {B : Nat} {rs Ws : List Nat} {k : Nat} : ∀ a, Tk (Only []) (OnlyB B rs) Ws k a a := fun a => by
  unfold Tk; split
  · exact onlyB_sub _ _ (Only.refl _ _)
  · exact Only.refl _ _
theorem Tk_only {B : Nat} {rs Ws : List Nat} {k : Nat} {w w' : World} (h : Only [] w w') : Tk (Only []) (OnlyB B rs) Ws k w w' := by
  unfold Tk; split
  · exact onlyB_sub _ _ h
  · exact h
theorem Tk_writes {B : Nat} {rs ss Ws : List Nat} {k : Nat} {w w' : World} (hk : Ws.contains k = true) (h : Only ss w w') (hs : ∀ x ∈ ss, x ∈ rs ∨ B ≤ x) : Tk (Only []) (OnlyB B rs) Ws k w w' := by
  unfold Tk
  rw [if_pos hk]
  exact OnlyB.of h hs
theorem call_same {B : Nat} {rs Ws : List Nat} {k : Nat} {f : FuncId} {args : Array Value} {v : Value} {w : World} (h : Calls P f args w fun e w' => e = .returned v ∧ w = w') : Calls P f args w fun e w' => e = .returned v ∧ Tk (Only []) (OnlyB B rs) Ws k w w' :=
  h.mono fun _ _ ⟨he, hw⟩ => ⟨he, hw ▸ Tk_refl _⟩
theorem call_only {B : Nat} {rs Ws : List Nat} {k : Nat} {f : FuncId} {args : Array Value} {v : Value} {w : World} (h : Calls P f args w fun e w' => e = .returned v ∧ Only [] w w') : Calls P f args w fun e w' => e = .returned v ∧ Tk (Only []) (OnlyB B rs) Ws k w w' :=
  h.mono fun _ _ ⟨he, hw⟩ => ⟨he, Tk_only hw⟩
theorem lasts0 {T : World → World → Prop} {Ws : List Nat} {k x : Nat} {φ : Value → World → Prop} (hr : (Ws.any fun i => !reachB ops i k && !reachB ops x i) = false) (h : ∀ v w w', φ v w → Only [] w w' → φ v w') : ∀ v w w', φ v w → Sb ops (Only []) T Ws k x w w' → φ v w' := by
  intro v w w' h1 h2
  unfold Sb at h2
  rw [hr] at h2
  exact h v w w' h1 (by simpa using h2)
theorem region_only {id : Nat} {w : World} (hm : P.follows .mixedOrders = true) (hB : (relB l.toArray && decide (l.length < 9999)) = true) (h : relWalk P l.toArray (Only []) (OnlyB w.heap.size []) [] w.drew Q K l 0 a []) : (Code.region id l.toArray true).wp P Q a w :=
  wp_region_rel (Only []) (OnlyB w.heap.size []) [] (Only.refl []) only_trans onlyB_trans onlyB_sub hm hB h
theorem region_writes (rs Ws : List Nat) {id : Nat} {w : World} (hm : P.follows .mixedOrders = true) (hB : (relB l.toArray && decide (l.length < 9999)) = true) (h : relWalk P l.toArray (Only []) (OnlyB w.heap.size rs) Ws w.drew Q K l 0 a []) : (Code.region id l.toArray true).wp P Q a w :=
  wp_region_rel (Only []) (OnlyB w.heap.size rs) Ws (Only.refl []) only_trans onlyB_trans onlyB_sub hm hB h
end
end Go.Proofs.YtkcnnbglmckmnaaDoor
namespace Go.Proofs.YtkcnnbglmckmnaaDoor
open Go.RowKit Go.Instr
abbrev St (l : List UInt8) : ByteArray := ⟨l.toArray⟩
theorem St_size (l : List UInt8) : (St l).size = l.length := by simp [ByteArray.size]
theorem St_list (l : List UInt8) : (St l).data.toList = l := by simp
theorem St_data (s : ByteArray) : St s.data.toList = s := Lib.mk_data s
section
variable {P : Program} {w : World}
theorem run_str_sl (src dst e : TypeId) (A : Option Addr) (n c : Nat) (l : List UInt8) (hs : P.underlying src = some (.slice e)) (he : P.underlying e = some (.int .u8)) (hd : P.underlying dst = some .string) (h : Sl w A n (bvs l)) :
    (convert src dst (.slice A n c)).run P w = .ok (.string (St l)) w := by
  have hl : l.length = n := by simpa using h.len
  cases A with
  | none =>
    have h0 : n = 0 := by
      rcases Nat.eq_zero_or_pos n with h0 | h0
      · exact h0
      · obtain ⟨ad, e, _⟩ := h.2 h0
        cases e
    subst h0
    obtain rfl : l = [] := List.eq_nil_of_length_eq_zero hl
    rw [run_convert_bytes_string w src dst e none 0 c hs he hd]
    rfl
  | some ad =>
    subst hl
    refine run_convert_bytes_back w src dst e ad c l hs he hd fun j hj => ?_
    obtain ⟨ad', hA, hc⟩ := h.2 (by omega)
    injection hA with hA
    subst hA
    exact hc j _ (bvs_get l j hj)
end
end Go.Proofs.YtkcnnbglmckmnaaDoor
namespace Go.Proofs.YtkcnnbglmckmnaaDoor
def isDig (c : UInt8) : Bool := decide (48 ≤ c.toNat) && decide (c.toNat ≤ 57)
def stp (n : Nat) (c : UInt8) : Nat := 10 * n + (c.toNat - 48)
def dv (n : Nat) (l : List UInt8) : Nat := l.foldl stp n
theorem dv_nil (n : Nat) : dv n [] = n := rfl
theorem dv_cons (n : Nat) (c : UInt8) (r : List UInt8) : dv n (c :: r) = dv (stp n c) r := by
  unfold dv
  rw [List.foldl_cons]
theorem dv_snoc (l : List UInt8) (n : Nat) (c : UInt8) : dv n (l ++ [c]) = stp (dv n l) c := by
  unfold dv
  rw [List.foldl_append, List.foldl_cons, List.foldl_nil]
def numL (s : List UInt8) : Nat :=
  if s = [42] then 1073741824 else if s.length < 1 then 0 else if 7 < s.length then 0 else if s.head? = some 48 then 0 else if s.all isDig = true then dv 0 s else 0
def grd (s : List UInt8) : List UInt8 := (s.take 7).takeWhile isDig
def numS (s : List UInt8) : Option (Nat × List UInt8) :=
  if s.head? = some 42 then some (1073741824, s.drop 1) else if grd s = [] then none else if s.head? = some 48 then none else some (dv 0 (grd s), s.drop (grd s).length)
theorem dv_le (r : List UInt8) : ∀ n : Nat, n ≤ dv n r := by
  induction r with
  | nil => intro n; exact Nat.le_refl _
  | cons c r ih =>
    intro n
    have h := ih (stp n c)
    have h2 : n ≤ stp n c := by unfold stp; omega
    rw [dv_cons]
    exact Nat.le_trans h2 h
theorem dv_lt (r : List UInt8) : ∀ (n : Nat), r.all isDig = true → dv n r < (n + 1) * 10 ^ r.length := by
  induction r with
  | nil =>
    intro n _
    rw [List.length_nil, Nat.pow_zero, Nat.mul_one]
    exact Nat.lt_succ_self n
  | cons c r ih =>
    intro n h
    simp only [List.all_cons, Bool.and_eq_true] at h
    have h0 : stp n c + 1 ≤ (n + 1) * 10 := by
      have := h.1
      simp only [isDig, Bool.and_eq_true, decide_eq_true_eq] at this
      unfold stp
      omega
    have h1 := ih (stp n c) h.2
    rw [List.length_cons, Nat.pow_succ, dv_cons, Nat.mul_comm _ 10, ← Nat.mul_assoc]
    exact Nat.lt_of_lt_of_le h1 (Nat.mul_le_mul_right _ h0)
theorem numL_digits {s : List UInt8} (h1 : 1 ≤ s.length) (h7 : s.length ≤ 7) (h0 : s.head? ≠ some 48) (hd : s.all isDig = true) : numL s = dv 0 s ∧ 1 ≤ dv 0 s := by
  cases s with
  | nil => simp at h1
  | cons c r =>
    have hc : 49 ≤ c.toNat ∧ c.toNat ≤ 57 := by
      have h2 : isDig c = true := by simp at hd; exact hd.1
      simp only [isDig, Bool.and_eq_true, decide_eq_true_eq] at h2
      have h3 : c.toNat ≠ 48 := fun h => h0 (by simp; exact UInt8.toNat_inj.1 (by rw [h]; rfl))
      omega
    refine ⟨?_, ?_⟩
    · unfold numL
      rw [if_neg (by
        intro h
        injection h with h _
        rw [h] at hc
        simp at hc), if_neg (by omega), if_neg (by omega), if_neg h0, if_pos hd]
    · have h2 : 1 ≤ stp 0 c := by unfold stp; omega
      rw [dv_cons]
      exact Nat.le_trans h2 (dv_le r (stp 0 c))
theorem numL_star : numL [42] = 1073741824 := by simp [numL]
theorem numL_pos {s : List UInt8} (h : numL s ≠ 0) : s = [42] ∨ (1 ≤ s.length ∧ s.length ≤ 7 ∧ s.head? ≠ some 48 ∧ s.all isDig = true) := by
  unfold numL at h
  split at h
  · left; assumption
  · split at h
    · exact absurd rfl h
    · split at h
      · exact absurd rfl h
      · split at h
        · exact absurd rfl h
        · split at h
          · right; refine ⟨by omega, by omega, by assumption, by assumption⟩
          · exact absurd rfl h
theorem take_tw {α : Type} (p : α → Bool) : ∀ s : List α, s.take (s.takeWhile p).length = s.takeWhile p
  | [] => rfl
  | c :: r => by
    rw [List.takeWhile_cons]
    split
    · rw [List.length_cons, List.take_succ_cons, take_tw p r]
    · rfl
theorem drop_tw {α : Type} (p : α → Bool) : ∀ s : List α, s.drop (s.takeWhile p).length = s.dropWhile p
  | [] => rfl
  | c :: r => by
    rw [List.takeWhile_cons, List.dropWhile_cons]
    split
    · rw [List.length_cons, List.drop_succ_cons, drop_tw p r]
    · rfl
theorem dw_head {α : Type} (p : α → Bool) : ∀ (s : List α) {c : α} {r : List α}, s.dropWhile p = c :: r → p c = false
  | [], _, _, h => by cases h
  | x :: s, c, r, h => by
    rw [List.dropWhile_cons] at h
    split at h
    · exact dw_head p s h
    · rename_i hp
      injection h with h1 _
      subst h1
      simpa using hp
theorem tw_all {α : Type} (p : α → Bool) (s : List α) : (s.takeWhile p).all p = true := List.all_takeWhile
theorem grd_dig (s : List UInt8) : (grd s).all isDig = true := tw_all _ _
theorem grd_len (s : List UInt8) : (grd s).length ≤ 7 := by
  unfold grd
  have h1 := (List.takeWhile_sublist (l := s.take 7) isDig).length_le
  rw [List.length_take] at h1
  omega
theorem grd_stop (d q : List UInt8) (hd : d.all isDig = true) (h7 : d.length ≤ 7) (hq : ∀ c, q.head? = some c → isDig c = false) : grd (d ++ q) = d := by
  unfold grd
  rw [List.take_append, List.take_of_length_le h7, List.takeWhile_append_of_pos (fun x hx => List.all_eq_true.1 hd x hx)]
  cases q with
  | nil => simp
  | cons c r =>
    cases 7 - d.length with
    | zero => simp
    | succ n => rw [List.take_succ_cons, List.takeWhile_cons, hq c rfl]; simp
def Sep (P : UInt8 → Bool) : Prop := ∀ c, P c = true → isDig c = false ∧ c ≠ 42
section
variable {P : UInt8 → Bool} (hP : Sep P)
include hP
theorem num_ok {s : List UInt8} (h : numL (s.takeWhile fun c => !P c) ≠ 0) : numS s = some (numL (s.takeWhile fun c => !P c), s.dropWhile fun c => !P c) := by
  have e : s = (s.takeWhile fun c => !P c) ++ s.dropWhile fun c => !P c := (List.takeWhile_append_dropWhile).symm
  have hq : ∀ c, (s.dropWhile fun c => !P c).head? = some c → P c = true := fun c hc => by
    cases hs : s.dropWhile fun c => !P c with
    | nil => rw [hs] at hc; cases hc
    | cons x r =>
      rw [hs] at hc
      injection hc with hc
      subst hc
      have := dw_head _ s hs
      simpa using this
  generalize (s.takeWhile fun c => !P c) = p at e h
  generalize (s.dropWhile fun c => !P c) = q at e hq
  subst e
  rcases numL_pos h with rfl | ⟨h1, h7, h0, hd⟩
  · simp [numS, numL_star]
  · obtain ⟨k1, k2⟩ := numL_digits h1 h7 h0 hd
    have hg := grd_stop p q hd h7 (fun c hc => (hP c (hq c hc)).1)
    have hne : p ≠ [] := fun h => by rw [h] at h1; simp at h1
    have hh : (p ++ q).head? = p.head? := by
      cases p with
      | nil => exact absurd rfl hne
      | cons c r => rfl
    have h42 : p.head? ≠ some 42 := fun h => by
      cases p with
      | nil => exact absurd rfl hne
      | cons c r =>
        simp at h
        subst h
        simp [isDig] at hd
    unfold numS
    rw [hh, if_neg h42, hg, if_neg hne, if_neg h0, k1, List.drop_left]
theorem num_bad {s : List UInt8} (h : numL (s.takeWhile fun c => !P c) = 0) : numS s = none ∨ ∃ n c r, numS s = some (n, c :: r) ∧ P c = false := by
  unfold numS
  split
  · rename_i h42
    right
    cases s with
    | nil => cases h42
    | cons x r =>
      simp at h42
      subst h42
      refine ⟨1073741824, ?_⟩
      have hp42 : P 42 = false := by
        cases hp : P 42 with
        | false => rfl
        | true => exact absurd rfl (hP _ hp).2
      cases r with
      | nil => rw [List.takeWhile_cons, hp42] at h; simp [numL_star] at h
      | cons c r =>
        refine ⟨c, r, rfl, ?_⟩
        cases hp : P c with
        | false => rfl
        | true => rw [List.takeWhile_cons, hp42, List.takeWhile_cons, hp] at h; simp [numL_star] at h
  · rename_i h42
    split
    · exact .inl rfl
    · rename_i hne
      split
      · exact .inl rfl
      · rename_i h48
        right
        have hdl : (grd s).length ≤ s.length := by
          unfold grd
          have h1 := (List.takeWhile_sublist (l := s.take 7) isDig).length_le
          rw [List.length_take] at h1
          omega
        have hpre : grd s = s.take (grd s).length := by
          have := take_tw isDig (s.take 7)
          unfold grd
          rw [← this, List.take_take, List.length_take]
          congr 1
          have h1 := (List.takeWhile_sublist (l := s.take 7) isDig).length_le
          rw [List.length_take] at h1
          omega
        have hdig := grd_dig s
        have h7 := grd_len s
        refine ⟨dv 0 (grd s), ?_⟩
        obtain ⟨d, hd⟩ : ∃ d, grd s = d := ⟨_, rfl⟩
        rw [hd] at hne hdl hpre hdig h7 ⊢
        have e : s = d ++ s.drop d.length := by
          conv => lhs; rw [← List.take_append_drop d.length s, ← hpre]
        obtain ⟨q, hq⟩ : ∃ q, s.drop d.length = q := ⟨_, rfl⟩
        rw [hq] at e ⊢
        subst e
        have hnp : ∀ x ∈ d, (!P x) = true := fun x hx => by
          cases hp : P x with
          | false => rfl
          | true =>
            have h1 := (hP x hp).1
            have h2 := List.all_eq_true.1 hdig x hx
            rw [h1] at h2
            cases h2
        have h48' : d.head? ≠ some 48 := by
          cases d with
          | nil => exact absurd rfl hne
          | cons c r => exact h48
        have h1 : 1 ≤ d.length := by
          cases d with
          | nil => exact absurd rfl hne
          | cons c r => simp
        have hval := numL_digits h1 h7 h48' hdig
        rw [List.takeWhile_append_of_pos hnp] at h
        cases q with
        | nil =>
          rw [List.takeWhile_nil, List.append_nil] at h
          omega
        | cons c r =>
          refine ⟨c, r, rfl, ?_⟩
          cases hp : P c with
          | false => rfl
          | true =>
            rw [List.takeWhile_cons, hp] at h
            simp at h
            omega
end
abbrev Rg := Int × Int
def colB (c : UInt8) : Bool := c == 44 || c == 58
def comB (c : UInt8) : Bool := c == 44
theorem sep_col : Sep colB := fun c h => by
  simp only [colB, Bool.or_eq_true, beq_iff_eq] at h
  rcases h with rfl | rfl <;> exact ⟨by decide, by decide⟩
theorem sep_com : Sep comB := fun c h => by
  simp only [comB, beq_iff_eq] at h
  subst h
  exact ⟨by decide, by decide⟩
def ix (x : UInt8) (s : List UInt8) : Nat := (s.takeWhile fun c => !(c == x)).length
theorem ix_le (x : UInt8) (s : List UInt8) : ix x s ≤ s.length := (List.takeWhile_sublist _).length_le
theorem ix_take (x : UInt8) (s : List UInt8) : s.take (ix x s) = s.takeWhile fun c => !(c == x) := take_tw _ _
theorem ix_cons (x y : UInt8) (s : List UInt8) : ix x (y :: s) = if y = x then 0 else ix x s + 1 := by
  unfold ix
  rw [List.takeWhile_cons]
  by_cases h : y = x
  · simp [h]
  · simp [h]
def rOf (t : List UInt8) : Option Rg :=
  let a := if ix 58 t < t.length then numL (t.take (ix 58 t)) else numL t
  let b := if ix 58 t < t.length then numL (t.drop (ix 58 t + 1)) else numL t
  if a = 0 ∨ b = 0 then none else some ((a : Int), (b : Int))
def oneP (s : List UInt8) : Option (Rg × List UInt8) :=
  match numS s with
  | none => none
  | some (a, s1) => if s1.head? = some 58 then
      match numS (s1.drop 1) with
      | none => none
      | some (b, s2) => some (((a : Int), (b : Int)), s2)
    else some (((a : Int), (a : Int)), s1)
theorem numS_none {P : UInt8 → Bool} (hP : Sep P) {s : List UInt8} (h : numS s = none) : numL (s.takeWhile fun c => !P c) = 0 := by
  by_cases h0 : numL (s.takeWhile fun c => !P c) = 0
  · exact h0
  · rw [num_ok hP h0] at h; cases h
theorem numS_stop {P : UInt8 → Bool} (hP : Sep P) {s q : List UInt8} {n : Nat} (h : numS s = some (n, q)) (hq : ∀ c, q.head? = some c → P c = true) : numL (s.takeWhile fun c => !P c) = n ∧ n ≠ 0 ∧ (s.dropWhile fun c => !P c) = q := by
  by_cases h0 : numL (s.takeWhile fun c => !P c) = 0
  · rcases num_bad hP h0 with h1 | ⟨m, c, r, h1, h2⟩
    · rw [h1] at h; cases h
    · rw [h1] at h
      injection h with h
      injection h with _ h
      rw [← h] at hq
      rw [hq c rfl] at h2
      cases h2
  · have := num_ok hP h0
    rw [h] at this
    injection this with this
    injection this with h1 h2
    exact ⟨h1.symm, h1 ▸ h0, h2.symm⟩
theorem numS_go {P : UInt8 → Bool} (hP : Sep P) {s r : List UInt8} {n : Nat} {c : UInt8} (h : numS s = some (n, c :: r)) (hc : P c = false) : numL (s.takeWhile fun c => !P c) = 0 := by
  by_cases h0 : numL (s.takeWhile fun c => !P c) = 0
  · exact h0
  · have := num_ok hP h0
    rw [h] at this
    injection this with this
    injection this with h1 h2
    have := dw_head _ s h2.symm
    rw [hc] at this
    cases this
theorem tw_two (s : List UInt8) : (s.takeWhile fun c => !comB c).takeWhile (fun c => !(c == 58)) = s.takeWhile fun c => !colB c := by
  induction s with
  | nil => rfl
  | cons c r ih =>
    by_cases h1 : c = 44
    · subst h1
      simp [comB, colB]
    · by_cases h2 : c = 58
      · subst h2
        simp [comB, colB]
      · simp only [comB] at ih ⊢
        simp [colB, h1, h2]
        simpa [colB] using ih
theorem piece_eq (s : List UInt8) : s.take (ix 44 s) = s.takeWhile fun c => !comB c := ix_take 44 s
theorem rest_eq (s : List UInt8) : s.drop (ix 44 s) = s.dropWhile fun c => !comB c := drop_tw _ s
end Go.Proofs.YtkcnnbglmckmnaaDoor
namespace Go.Proofs.YtkcnnbglmckmnaaDoor
def numD (l : List UInt8) : Option Nat := if l.length < 1 then none else if 7 < l.length then none else if l.all isDig = true then some (dv 0 l) else none
abbrev Tkn := Int × List UInt8
end Go.Proofs.YtkcnnbglmckmnaaDoor
