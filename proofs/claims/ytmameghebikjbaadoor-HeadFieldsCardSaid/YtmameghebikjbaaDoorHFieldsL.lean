/-
  The law HeadFields.
-/
import Derived.Test.YtmameghebikjbaaDoorHNone
namespace Go.Proofs.YtmameghebikjbaaDoor
open Go.RowKit Go.Instr

set_option maxRecDepth 100000 in
set_option maxHeartbeats 2000000 in
theorem fields_any (A : Option Addr) (n c : Nat) (l : List UInt8) (s1 s2 : ByteArray) (w : World) (hs : Bt w A n c l) (hA : ∀ x ∈ blks A, x < w.heap.size) (k1 : s1.size ≤ 140737488351232) (k2 : s2.size ≤ 140737488351232) :
    Calls Tryd.prog 4 #[.slice A n c, .string s1, .string s2] w fun e w' => e = .returned (.bool true) ∧ Only [] w w' := by
  by_cases hbn : n ≤ 1500
  case neg =>
    have hbn'' : (1500 : Int) < (n : Int) := by omega
    go_enter Tryd.func4, Tryd.ntmps4
    go_wp2_with fail
    go_ret
    exact ⟨rfl, Only.refl _ _⟩
  have hbn' : ¬ (1500 : Int) < (n : Int) := by omega
  have hwr : IntKind.i64.wrap ((s1.size : Int) + (s2.size : Int)) = (s1.size : Int) + (s2.size : Int) := IntWalk.i64_in _ (by omega)
  by_cases hsn : s1.size + s2.size ≤ 200
  case neg =>
    have hsn' : (200 : Int) < (s1.size : Int) + (s2.size : Int) := by omega
    go_enter Tryd.func4, Tryd.ntmps4
    go_wp2_with fail
    go_ret
    exact ⟨rfl, Only.refl _ _⟩
  have hsn' : ¬ (200 : Int) < (s1.size : Int) + (s2.size : Int) := by omega
  have cF := Fields_any hs (by omega) hA
  have cR := fun w1 (ho : Only [] w w1) => refFields_any (hs.keep ho) (by omega) (blks_keep hA ho)
  have hG1 := fun w1 (ho : Only [] w w1) => Get_as (hs.keep ho) (by omega) (blks_keep hA ho) s1 (by omega) _ _ rfl rfl
  have hG2 := fun w1 (ho : Only [] w w1) => refGet_as (hs.keep ho) (by omega) (blks_keep hA ho) s1 (by omega) _ _ rfl rfl
  have cS := fun w1 => Same_any s1 s2 (by omega) (by omega) w1
  have cT := fun w1 => refSame_any s1 s2 (by omega) (by omega) w1
  obtain ⟨T, hT⟩ : ∃ T, St ((getF l s1.data.toList).getD []) = T := ⟨_, rfl⟩
  obtain ⟨B, hB⟩ : ∃ B, (getF l s1.data.toList).isSome = B := ⟨_, rfl⟩
  obtain ⟨b, hb⟩ : ∃ b, sameT s1.data.toList s2.data.toList = b := ⟨_, rfl⟩
  rw [hT, hB] at hG1 hG2
  rw [hb] at cS cT
  obtain ⟨G, hG⟩ : ∃ G, flds l = G := ⟨_, rfl⟩
  have hlenG : G.length ≤ 16777216 := by
    rw [← hG]
    have := flds_len l
    have := hs.len
    omega
  rw [hG] at cF cR
  obtain ⟨m, hm⟩ : ∃ m, G.length = m := ⟨_, rfl⟩
  rw [hm] at cF cR hlenG
  have HM := Lib.hid hm
  have HR := Lib.hid cR
  have HG1 := Lib.hid hG1
  have HG2 := Lib.hid hG2
  have HS := Lib.hid cS
  have HT := Lib.hid cT
  clear hG hm cR hG1 hG2 cS cT hT hB hb hs hA
  go_enter Tryd.func4, Tryd.ntmps4
  go_wp2_with first
    | (go_at_call 25; (with_reducible refine (HR.out w1 hO1).mono ?_); rintro e w2 ⟨A2, c2, rfl, hF2, hO2⟩)
    | (go_at_call 24; (with_reducible refine cF.mono ?_); rintro e w1 ⟨A1, c1, rfl, hF1, hO1⟩)
  go_loopw [9] (fun i wr => ∃ k : Nat, k ≤ m ∧ i = .int .i64 (k : Int) ∧ Only [] w2 wr) (fun i _ => m - (intOf i).toNat)
  case atStart => exact ⟨0, Nat.zero_le _, rfl, Only.refl _ _⟩
  case round =>
    obtain ⟨k, hk, rfl, hOr⟩ := hrel
    by_cases hlt : k < m
    · have hlt' : (k : Int) < (m : Int) := by omega
      have hkG : k < G.length := by rw [HM.out]; exact hlt
      obtain ⟨g1, rfl, e1, e2⟩ := (hF1.keep (hO2.then hOr)).at_ hlt hkG
      obtain ⟨g2, rfl, d1, d2⟩ := (hF2.keep hOr).at_ hlt hkG
      obtain ⟨tn, htn⟩ : ∃ tn, St G[k].1 = tn := ⟨_, rfl⟩
      obtain ⟨tv, htv⟩ : ∃ tv, St G[k].2 = tv := ⟨_, rfl⟩
      rw [htn] at e1 d1
      rw [htv] at e2 d2
      clear htn htv
      go_wp2_with fail
      go_quiet (fail)
      go_wp2_with fail
      go_roundw
      case rel => exact ⟨k + 1, by omega, by go_num, hOr.drewN _⟩
      case measure => simp [intOf]; omega
    · obtain rfl : k = m := by omega
      have hOw : Only [] w wr := (hO1.then hO2).then hOr
      go_wp2_with first
        | (go_at_call 23; (with_reducible refine (known_any _).mono ?_); rintro e w7 ⟨rfl, hO7⟩)
        | (go_at_call 29; (with_reducible refine (HT.out _).mono ?_); rintro e w6 ⟨rfl, hO6⟩)
        | (go_at_call 28; (with_reducible refine (HS.out _).mono ?_); rintro e w5 ⟨rfl, hO5⟩)
        | (go_at_call 27; (with_reducible refine (HG2.out w3 (hOw.then hO3)).mono ?_); rintro e w4 ⟨rfl, hO4⟩)
        | (go_at_call 26; (with_reducible refine (HG1.out wr hOw).mono ?_); rintro e w3 ⟨rfl, hO3⟩)
      go_ret
      exact ⟨rfl, (((((hOw.then hO3).then hO4).then hO5).then hO6)).then hO7⟩
end Go.Proofs.YtmameghebikjbaaDoor
