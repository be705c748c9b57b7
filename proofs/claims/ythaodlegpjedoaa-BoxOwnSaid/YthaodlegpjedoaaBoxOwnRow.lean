/-
  what is handed in is neither changed nor kept For every input, no condition of ours.
-/
import Derived.Test.YthaodlegpjedoaaOpenV
import Derived.Test.YthaodlegpjedoaaVOwn
namespace Go.Proofs.Ythaodlegpjedoaa.boxOwn
open Go.ChangeShapes Go.WideShapes Go.ChangeAt Go.RowKit

set_option maxHeartbeats 800000 in
set_option maxRecDepth 100000 in
theorem lifted (os : Os) (started : os.Started) (H : Type) (enc : TypeId × Value → H) :
    ReturnsInHanded {} Try.checked os 8 .any (Rows.boxOwnSpec.pre6 enc Try.prog Try.f8 Rows.boxOwnRow.domain false) (Rows.boxOwnSpec.post enc Try.prog Try.f8 false true false false) := by
  refine returnsInHanded_of_change_sized (C := Try.checked) ownKnobs started (by kernel_rfl) Try.func8
    (ChangeSpec.witness6 (enc := enc) (C := Try.checked) false ⟨#[], #[.agg #[.string ⟨#[]⟩, .int .i64 0, .int .i64 0, .slice none 0 0], .slice none 0 0, .slice none 0 0], []⟩ 8 (by kernel_rfl) (by kernel_rfl) (by kernel_rfl) (by kernel_rfl)) ?_
  intro W base args ds gs before hval0 hW _ hsz0 _
  have hsz : (DataW.weightsEach Try.prog (Try.f8.params.toList ++ Rows.boxOwnSpec.plain.varTypes Try.prog) (ds ++ gs)).all (· ≤ reachBytes) = true := hsz0
  clear hsz0
  have hval : ∀ (j : Nat) t v, Try.f8.params[j]? = some t → args[j]? = some v → Value.okWide Try.prog W .any base t v := hval0
  have hW' := hW
  obtain ⟨p, q, hA0, hV, rfl, _, _⟩ := hW
  have hA : DataW.TrodAll enc Try.prog W 0 (fun _ => true) true Try.f8.params.toList args.toList ds p := hA0
  rw [Try.params8] at hA hval hsz
  obtain ⟨v0, vs0, d0, ds0, p0, q0, hargs, rfl, rfl, g0, r0⟩ := trodAll_cons hA
  obtain ⟨v1, vs1, d1, ds1, p1, q1, rfl, rfl, rfl, g1, r1⟩ := trodAll_cons r0
  obtain ⟨v2, vs2, d2, ds2, p2, q2, rfl, rfl, rfl, g2, r2⟩ := trodAll_cons r1
  obtain ⟨rfl, rfl, rfl⟩ := trodAll_nil r2
  obtain rfl : args = #[v0, v1, v2] := by cases args; simp_all
  obtain ⟨rfl, rfl⟩ := trodVars_none hV
  obtain ⟨b0, A0, c0, rfl, h0a, h0w⟩ := open_box (hval 0 26 v0 rfl rfl) g0
  have j0 : b0.l.length ≤ 140737488351232 ∧ b0.name.length ≤ 140737488351232 := h0w _ (fun m hm => by
    have := List.all_eq_true.1 hsz _ (DataW.weights_mem_each (j := 0) (t := 26) rfl rfl m hm)
    exact of_decide_eq_true this)
  obtain ⟨A1, n1, c1, s1, rfl, h1a, h1e, h1b, h1c⟩ := open_nums (hval 1 28 v1 rfl rfl) g1
  have k1 : c1 * 8 ≤ 140737488351232 := by
    have hk : c1 ≤ 140737488351232 / 8 := h1c _ (fun e s he => by
      subst he
      have := sized_slice hsz (j := 1) (t := 28) (e := 3) rfl rfl Try.underlying28
      rw [bytesInt] at this
      simp only [reachBytes] at this
      omega)
    omega
  obtain ⟨A2, n2, c2, l2, rfl, h2a, h2b, h2c⟩ := open_bytes (hval 2 29 v2 rfl rfl) g2
  have k2 : c2 * 1 ≤ 140737488351232 := by
    have hk : c2 ≤ 140737488351232 / 1 := h2c _ (fun e s he => by
      subst he
      have := sized_slice hsz (j := 2) (t := 29) (e := 5) rfl rfl Try.underlying29
      rw [bytesByte] at this
      simp only [reachBytes] at this
      omega)
    omega
  clear hA0
  refine (own_any b0 h0a j0.1 j0.2 A1 n1 c1 s1 h1a (by omega) A2 n2 c2 l2 h2a (by omega)).mono fun e W' ⟨he, hg⟩ => ?_
  subst he
  exact ⟨_, rfl, post_law hW' rfl rfl rfl (by rw [Try.params8]; intro t ht; simp at ht; rcases ht with rfl | rfl | rfl <;> exact ⟨by kernel_rfl, of_decide_eq_true (by kernel_rfl)⟩) hg⟩

theorem said : Rows.BoxOwnSaid :=
  OpenClaim.holds_of_wide 8 Try.f8 rfl rfl rfl rfl rfl rfl rfl ⟨rfl, rfl, rfl, rfl, rfl⟩ rfl rfl rfl rfl rfl (by kernel_rfl) Try.func8 (by kernel_rfl)
    (of_decide_eq_true (by kernel_rfl)) (by unfold Func.isWrapper; rw [if_neg (of_decide_eq_false (by kernel_rfl))]; exact ⟨rfl, rfl⟩)
    (fun os started H enc _ => lifted os started H enc)
#print axioms said
end Go.Proofs.Ythaodlegpjedoaa.boxOwn
