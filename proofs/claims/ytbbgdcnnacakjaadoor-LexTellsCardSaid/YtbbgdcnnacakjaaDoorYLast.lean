/-
  bytes.LastIndexByte.
-/
import Derived.Test.YtbbgdcnnacakjaaDoorYMath
import Derived.Test.YtbbgdcnnacakjaaDoorBt
import Derived.Test.YtbbgdcnnacakjaaDoorRowsOf
import Derived.WalkKit
namespace Go.Proofs.YtbbgdcnnacakjaaDoor
open Go.RowKit Go.Instr

def lastV (x : UInt8) (l : List UInt8) : Int := match lastI x l with
  | some i => (i : Int)
  | none => -1
section
variable {w : World} {A : Option Addr} {n c : Nat} {l : List UInt8}
theorem last_any (hs : Bt w A n c l) (hn : n ≤ 140737488355328) (x : UInt8) : Calls Tryd.prog 42 #[.slice A n c, bv x] w fun e w' => e = .returned (.int .i64 (lastV x l)) ∧ w = w' := by
  have hl := hs.len
  have HS := Lib.hid hs
  have HL := Lib.hid hl
  obtain ⟨V, hV⟩ : ∃ V, lastV x l = V := ⟨_, rfl⟩
  have HV := Lib.hid hV
  rw [hV]
  clear hs hl hV
  unfold bv
  have hx8 := byte_lt x
  go_enter Tryd.func42, Tryd.ntmps42
  go_wp2
  go_loopw [5] (fun iv wr => wr = w ∧ ∃ (k : Nat) (X : Int), iv = .int .i64 X ∧ X = (k : Int) - 1 ∧ k ≤ n ∧ Hid (∀ (j : Nat) (hj : j < l.length), k ≤ j → l[j] ≠ x)) (fun iv _ => (intOf iv + 1).toNat)
  case atStart =>
    exact ⟨rfl, n, (n : Int) - 1, rfl, rfl, Nat.le_refl _, fun j hj hk => absurd hj (by rw [HL.out]; omega)⟩
  case round =>
    obtain ⟨rfl, k, X, rfl, hX, hk, HN⟩ := hrel
    cases k with
    | zero =>
      obtain rfl : X = -1 := by rw [hX]; rfl
      have HE : Hid (V = -1) := by
        show _ = _
        rw [← HV.out]
        unfold lastV
        rw [lastI_none fun j hj => HN.out j hj (Nat.zero_le _)]
      clear hX HN
      go_wp2
      go_ret
      exact ⟨by rw [HE.out]; rfl, rfl⟩
    | succ m =>
      obtain rfl : X = (m : Int) := by rw [hX]; push_cast; omega
      clear hX
      have hml : m < l.length := by rw [HL.out]; omega
      obtain ⟨ad, u, rfl, hu, hc⟩ := HS.out.sl.at_ (k := m) (by omega)
      rw [bvs_get l m hml] at hu
      injection hu with hu
      subst hu
      obtain ⟨y, hy⟩ : ∃ y, l[m] = y := ⟨_, rfl⟩
      rw [hy] at hc
      unfold bv at hc
      have hy8 := byte_lt y
      have hm1 : (m : Int) < (n : Int) := by omega
      have hm2 : m < n := by omega
      by_cases hxy : y = x
      · have HE : Hid (V = (m : Int)) := by
          show _ = _
          rw [← HV.out]
          unfold lastV
          rw [lastI_at hml (by rw [hy, hxy]) (fun j hj hmj => HN.out j hj (by omega))]
        subst hxy
        clear HN hy
        go_wp2
        go_ret
        exact ⟨by rw [HE.out]; rfl, rfl⟩
      · have hb : ((y.toNat : Int) == (x.toNat : Int)) = false := beq_eq_false_iff_ne.2 fun h => hxy (UInt8.toNat_inj.1 (by omega))
        have HR : Hid (∃ (k : Nat) (X : Int), Value.int .i64 ((m : Int) - 1) = .int .i64 X ∧ X = (k : Int) - 1 ∧ k ≤ n ∧ Hid (∀ (j : Nat) (hj : j < l.length), k ≤ j → l[j] ≠ x)) :=
          ⟨m, _, rfl, rfl, by omega, fun j hj hmj => by
            rcases Nat.eq_or_lt_of_le hmj with h | h
            · subst h; rw [hy]; exact hxy
            · exact HN.out j hj (by omega)⟩
        have HM : Hid ((intOf (.int .i64 ((m : Int) - 1)) + 1).toNat < (intOf (.int .i64 (m : Int)) + 1).toNat) := by
          show ((m : Int) - 1 + 1).toNat < ((m : Int) + 1).toNat
          omega
        clear HN hy hxy
        go_wp2
        exact ⟨⟨trivial, HR.out⟩, HM.out⟩
theorem lastIndex_any (hs : Bt w A n c l) (hn : n ≤ 140737488355328) (x : UInt8) : Calls Tryd.prog 28 #[.slice A n c, bv x] w fun e w' => e = .returned (.int .i64 (lastV x l)) ∧ w = w' := by
  have h := last_any hs hn x
  clear hs
  generalize lastV x l = V at h ⊢
  unfold bv at h ⊢
  go_enter Tryd.func28, Tryd.ntmps28
  go_wp2_with (go_at_call 42; with_reducible refine h.mono ?_; rintro e w2 ⟨rfl, rfl⟩)
  go_ret
  exact ⟨rfl, rfl⟩
end
end Go.Proofs.YtbbgdcnnacakjaaDoor
