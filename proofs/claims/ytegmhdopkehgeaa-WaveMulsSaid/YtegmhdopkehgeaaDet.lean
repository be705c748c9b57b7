/-
  A region that draws its order, whose operations each yield one and the same value in every world that meets S, and leave S standing (loads of cells that S names, calls that make memory of their own): whatever order is drawn, it is walked in the order of the text, once. Plain theorems: nothing of the program stands here.
-/
import Derived.Test.YtegmhdopkehgeaaWords
import Derived.Still
namespace Go.Proofs.Ytegmhdopkehgeaa
open Go

section
variable {P : Program} {ops : Array Oper} {S : World → Prop} {Q : Exit → Act → World → Prop} {md : Region.Mode}

/-- What an operation comes to: the value v, in a world that meets S. -/
def Gives (P : Program) (S : World → Prop) (v : Value) : Result Next → Prop
  | .ok (.value u) w' => u = v ∧ S w'
  | .ok (.enter f args) w' => Calls P f args w' (fun e w'' => e = .returned v ∧ S w'')
  | .ok .skip w' => v = undef ∧ S w'
  | _ => False

def GivesIn (P : Program) (S : World → Prop) (x : Sem Next) (v : Value) : Prop := ∀ w, S w → Gives P S v (x.run P w)

/-- One operation, in whatever world that meets S. -/
def detOp (P : Program) (ops : Array Oper) (S : World → Prop) (o : Oper) (K : Act → Prop) (a : Act) : Prop :=
  (Region.wanted o (yielded ops a.tmps) = true ∧ ∃ v, GivesIn P S (execOp a.eval o) v ∧ K (a.put o.dst v)) ∨ (Region.wanted o (yielded ops a.tmps) = false ∧ K (a.put o.dst undef))

/-- The operations in the order of the text. -/
def detWalk (P : Program) (ops : Array Oper) (S : World → Prop) (Q : Exit → Act → World → Prop) : List Oper → Act → Prop
  | [], a => ∀ w, S w → Q .normal a w
  | o :: l, a => detOp P ops S o (detWalk P ops S Q l) a

/-- Whatever order is picked. -/
def detAny (P : Program) (md : Region.Mode) (ops : Array Oper) (S : World → Prop) (Q : Exit → Act → World → Prop) : Nat → Array Bool → Act → Prop
  | 0, listed, a => Region.ready md ops listed = [] ∧ ∀ w, S w → Q .normal a w
  | fuel + 1, listed, a => (Region.ready md ops listed = [] → ∀ w, S w → Q .normal a w) ∧
    ∀ i ∈ Region.ready md ops listed, ∃ o, ops[i]? = some o ∧ detOp P ops S o (detAny P md ops S Q fuel (listed.setIfInBounds i true)) a

theorem detOp_mono {o : Oper} {K K' : Act → Prop} {a : Act} (h : ∀ a, K a → K' a) (hh : detOp P ops S o K a) : detOp P ops S o K' a := by
  rcases hh with ⟨hw, v, hg, hk⟩ | ⟨hw, hk⟩
  · exact .inl ⟨hw, v, hg, h _ hk⟩
  · exact .inr ⟨hw, h _ hk⟩

theorem detAny_sound : ∀ (fuel : Nat) (listed : Array Bool) (a : Act) (w : World), S w → detAny P md ops S Q fuel listed a → wpAny P md ops Q fuel listed a w
  | 0, _, _, w, hS, h => ⟨h.1, h.2 w hS⟩
  | fuel + 1, listed, a, w, hS, h => ⟨fun hr => h.1 hr w hS, fun i hi => by
    obtain ⟨o, ho, hd⟩ := h.2 i hi
    unfold wpOp
    simp only [ho]
    rcases hd with ⟨hw, v, hg, hk⟩ | ⟨hw, hk⟩
    · simp only [hw, if_true]
      left
      unfold Oper.wp
      have h2 := hg w hS
      generalize (execOp a.eval o).run P w = r at h2 ⊢
      cases r with
      | ok n w' =>
        cases n <;> simp only [Gives, Oper.upon] at h2 ⊢
        case value u =>
          obtain ⟨rfl, h3⟩ := h2
          exact detAny_sound fuel _ _ _ h3 hk
        case skip =>
          obtain ⟨rfl, h3⟩ := h2
          exact detAny_sound fuel _ _ _ h3 hk
        case enter f args =>
          refine Calls.mono h2 fun e w'' he => ?_
          obtain ⟨rfl, h3⟩ := he
          exact detAny_sound fuel _ _ _ h3 hk
      | halt x w' => simp only [Gives] at h2
    · simp only [hw, Bool.false_eq_true, if_false]
      exact detAny_sound fuel _ _ _ hS hk⟩

/-- Two operations apart: the one behind the other, or the other way. -/
theorem detOp_swap {oi oj : Oper} {v : Value} (hap : oi.apart ops oj = true) (hsi : ∀ cs b, oi.op ≠ .select cs b) (hsj : ∀ cs b, oj.op ≠ .select cs b) {K : Act → Prop} {a : Act}
    (h : detOp P ops S oj K (a.put oi.dst v)) : detOp P ops S oj (fun a' => K (a'.put oi.dst v)) a ∧
      ∀ u, (execOp (a.put oj.dst u).eval oi = execOp a.eval oi ∧ Region.wanted oi (yielded ops (a.put oj.dst u).tmps) = Region.wanted oi (yielded ops a.tmps)) := by
  obtain ⟨h1, h2, h3⟩ := Oper.apart_spec hap
  refine ⟨?_, fun u => ⟨execOp_put oi hsi a oj.dst u h3, wanted_put oi a oj.dst u h3⟩⟩
  unfold detOp at h ⊢
  rw [wanted_put oj a oi.dst v h1, execOp_put oj hsj a oi.dst v h1] at h
  rcases h with ⟨hw, u, hg, hk⟩ | ⟨hw, hk⟩
  · exact .inl ⟨hw, u, hg, by show K _; rw [← Act.put_comm a v u h2]; exact hk⟩
  · exact .inr ⟨hw, by show K _; rw [← Act.put_comm a v undef h2]; exact hk⟩

theorem detAny_first {i : Nat} {oi : Oper} (hi : ops[i]? = some oi) (hsel : ∀ (j : Nat) (o : Oper) cs b, ops[j]? = some o → o.op ≠ .select cs b) :
    ∀ (fuel : Nat) (listed : Array Bool) (a : Act),
      (∀ j oj, ops[j]? = some oj → j ≠ i → listed.getD j true = false → (∀ e ∈ oj.after, Region.binds md e = true → e.on ≠ i) → oi.apart ops oj = true) →
      i ∈ Region.ready md ops listed → detOp P ops S oi (detAny P md ops S Q fuel (listed.setIfInBounds i true)) a → detAny P md ops S Q (fuel + 1) listed a := by
  intro fuel
  induction fuel with
  | zero =>
    intro listed a _ hr H
    refine ⟨fun h => (by rw [h] at hr; cases hr), fun j hj => ?_⟩
    by_cases hji : j = i
    · subst hji; exact ⟨oi, hi, H⟩
    · have h0 := ready_mono hj hji
      rcases H with ⟨_, v, _, hk⟩ | ⟨_, hk⟩ <;> (rw [hk.1] at h0; cases h0)
  | succ fuel ih =>
    intro listed a hfree hr H
    refine ⟨fun h => (by rw [h] at hr; cases hr), fun j hj => ?_⟩
    by_cases hji : j = i
    · subst hji; exact ⟨oi, hi, H⟩
    · obtain ⟨hjun, oj, hoj, hall⟩ := mem_ready.1 hj
      have hnot : ∀ e ∈ oj.after, Region.binds md e = true → e.on ≠ i := fun e he hb heq => by
        have h1 := hall e he hb
        have h0 := (mem_ready.1 hr).1
        rw [heq] at h1
        rcases Nat.lt_or_ge i listed.size with h' | h'
        · simp [h'] at h0 h1; rw [h0] at h1; cases h1
        · simp [Array.getElem?_eq_none h'] at h1
      have hap := hfree j oj hoj hji hjun hnot
      have hfree' : ∀ k ok, ops[k]? = some ok → k ≠ i → (listed.setIfInBounds j true).getD k true = false →
          (∀ e ∈ ok.after, Region.binds md e = true → e.on ≠ i) → oi.apart ops ok = true := fun k ok hk hki hun hno => by
        refine hfree k ok hk hki ?_ hno
        by_cases hjk : j = k
        · subst hjk; exact hjun
        · rw [getD_set_ne true hjk] at hun; exact hun
      have next : ∀ v, detAny P md ops S Q (fuel + 1) (listed.setIfInBounds i true) (a.put oi.dst v) →
          detOp P ops S oj (fun a' => detAny P md ops S Q fuel ((listed.setIfInBounds j true).setIfInBounds i true) (a'.put oi.dst v)) a ∧
          ∀ u, (execOp (a.put oj.dst u).eval oi = execOp a.eval oi ∧ Region.wanted oi (yielded ops (a.put oj.dst u).tmps) = Region.wanted oi (yielded ops a.tmps)) := fun v hv => by
        obtain ⟨oj', hoj', hd⟩ := hv.2 j (ready_mono hj hji)
        rw [hoj] at hoj'
        injection hoj' with hoj'
        subst hoj'
        rw [Array.setIfInBounds_comm _ _ hji]
        exact detOp_swap hap (fun cs b => hsel i oi cs b hi) (fun cs b => hsel j oj cs b hoj) hd
      have step : ∀ v, detOp P ops S oj (fun a' => detAny P md ops S Q fuel ((listed.setIfInBounds j true).setIfInBounds i true) (a'.put oi.dst v)) a →
          (∀ u, (execOp (a.put oj.dst u).eval oi = execOp a.eval oi ∧ Region.wanted oi (yielded ops (a.put oj.dst u).tmps) = Region.wanted oi (yielded ops a.tmps))) →
          ((Region.wanted oi (yielded ops a.tmps) = true ∧ GivesIn P S (execOp a.eval oi) v) ∨ (Region.wanted oi (yielded ops a.tmps) = false ∧ v = undef)) →
          detOp P ops S oj (detAny P md ops S Q (fuel + 1) (listed.setIfInBounds j true)) a := fun v hd hsame hv => by
        have put : ∀ u, detAny P md ops S Q fuel ((listed.setIfInBounds j true).setIfInBounds i true) ((a.put oj.dst u).put oi.dst v) → detAny P md ops S Q (fuel + 1) (listed.setIfInBounds j true) (a.put oj.dst u) := fun u hu => by
          refine ih _ _ hfree' (ready_mono hr (Ne.symm hji)) ?_
          unfold detOp
          rw [(hsame u).1, (hsame u).2]
          rcases hv with ⟨hw, hg⟩ | ⟨hw, rfl⟩
          · exact .inl ⟨hw, v, hg, hu⟩
          · exact .inr ⟨hw, hu⟩
        rcases hd with ⟨hw, u, hg, hk⟩ | ⟨hw, hk⟩
        · exact .inl ⟨hw, u, hg, put u hk⟩
        · exact .inr ⟨hw, put undef hk⟩
      refine ⟨oj, hoj, ?_⟩
      rcases H with ⟨hw, v, hg, hk⟩ | ⟨hw, hk⟩
      · exact step v (next v hk).1 (next v hk).2 (.inl ⟨hw, hg⟩)
      · exact step undef (next undef hk).1 (next undef hk).2 (.inr ⟨hw, rfl⟩)

theorem detAny_lex (hs : Region.noSelect ops = true) : ∀ (l : List Oper) (k : Nat) (listed : Array Bool) (a : Act), (∀ j, l[j]? = ops[k + j]?) →
    Region.lexFrom md ops l.length k listed = true → detWalk P ops S Q l a → detAny P md ops S Q l.length listed a
  | [], _, _, _, _, hB, h => ⟨by simpa [Region.lexFrom] using hB, h⟩
  | o :: l, k, listed, a, hl, hB, h => by
    have h0 : ops[k]? = some o := by simpa using (hl 0).symm
    simp only [List.length_cons, Region.lexFrom, Bool.and_eq_true] at hB
    obtain ⟨⟨hr, hf⟩, hB'⟩ := hB
    exact detAny_first h0 (Region.noSelect_spec hs) l.length listed a (Region.free_spec h0 hf) (by simpa using hr)
      (detOp_mono (fun a' h' => detAny_lex hs l (k + 1) _ a' (fun j => by have := hl (j + 1); simpa [Nat.add_assoc, Nat.add_comm 1 j] using this) hB' h') h)

/-- The beginning. -/
theorem wp_region_det (S : World → Prop) {id : Nat} {a : Act} {w : World} {l : List Oper} (hm : P.follows .mixedOrders = true) (hB : Region.lexB .any l.toArray = true) (hS : S w.drew)
    (h : detWalk P l.toArray S Q l a) : (Code.region id l.toArray true).wp P Q a w := by
  simp only [Region.lexB, Bool.and_eq_true] at hB
  refine wp_region_any hm (detAny_sound _ _ _ _ hS ?_)
  have := detAny_lex (md := .any) hB.1 l 0 (Array.replicate l.toArray.size false) a (by simp) (by simpa using hB.2) h
  simpa using this

theorem det_value {o : Oper} {l : List Oper} {a : Act} (v : Value) (hw : Region.wanted o (yielded ops a.tmps) = true) (h : ∀ w, S w → (execOp a.eval o).run P w = .ok (.value v) w)
    (hk : detWalk P ops S Q l (a.put o.dst v)) : detWalk P ops S Q (o :: l) a :=
  .inl ⟨hw, v, fun w hS => by rw [h w hS]; exact ⟨rfl, hS⟩, hk⟩
theorem det_call {o : Oper} {l : List Oper} {a : Act} (v : Value) (f : FuncId) (args : Array Value) (hw : Region.wanted o (yielded ops a.tmps) = true) (h : ∀ w, (execOp a.eval o).run P w = .ok (.enter f args) w)
    (hc : ∀ w, S w → Calls P f args w fun e w' => e = .returned v ∧ S w') (hk : detWalk P ops S Q l (a.put o.dst v)) : detWalk P ops S Q (o :: l) a :=
  .inl ⟨hw, v, fun w hS => by rw [h w]; exact hc w hS, hk⟩
/-- A contract that leaves the world alone; one that makes memory of its own. -/
theorem det_same {f : FuncId} {args : Array Value} {v : Value} {w : World} (hS : S w) (h : Calls P f args w fun e w' => e = .returned v ∧ w = w') : Calls P f args w fun e w' => e = .returned v ∧ S w' :=
  h.mono fun _ _ ⟨he, hw⟩ => ⟨he, hw ▸ hS⟩
theorem det_only {f : FuncId} {args : Array Value} {v : Value} {w : World} (hk : ∀ w', Only [] w w' → S w') (h : Calls P f args w fun e w' => e = .returned v ∧ Only [] w w') : Calls P f args w fun e w' => e = .returned v ∧ S w' :=
  h.mono fun _ _ ⟨he, hw⟩ => ⟨he, hk _ hw⟩
/-- The usual condition: nothing that was there has turned, and a block is known whole. -/
def Stays (w : World) (g : Nat) (t : TypeId) (cs : Array Value) (W : World) : Prop := Only [] w W ∧ Bk W g t cs
theorem Stays.only {w W W' : World} {g : Nat} {t : TypeId} {cs : Array Value} (h : Stays w g t cs W) (o : Only [] W W') : Stays w g t cs W' := ⟨h.1.then o, h.2.only o (by simp)⟩
theorem Stays.start {w : World} {g : Nat} {t : TypeId} {cs : Array Value} (h : Bk w g t cs) : Stays w g t cs w.drew := ⟨(Only.refl [] w).drew, h⟩
theorem det_skip {o : Oper} {l : List Oper} {a : Act} (hw : Region.wanted o (yielded ops a.tmps) = false) (hk : detWalk P ops S Q l (a.put o.dst undef)) : detWalk P ops S Q (o :: l) a := .inr ⟨hw, hk⟩
end
end Go.Proofs.Ytegmhdopkehgeaa
