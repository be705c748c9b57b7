/-
  The walk of the law BaseJoins.
-/
import Derived.Test.YtjfahkbhhpcnnaaBMore
import Derived.WalkKit
import Derived.Handy
import Derived.Deep.DeepMust
import Derived.WalkLawsBesides
import Derived.ScopeJumps
import Derived.WalkMore
import Derived.IntWalk
namespace Go.Proofs.Ytjfahkbhhpcnnaa
open Go.RowKit

open Go.Instr

theorem basejoins_any (A B : Option Addr) (n m c d : Nat) (a b : List UInt8) (w : World) (ha : Sl w A n (bvs a)) (hb : Sl w B m (bvs b)) (hc : n ≤ c) (hd : m ≤ d) (hmx : c ≤ maxLen) (hmy : d ≤ 140737488351232) (hmz : c ≤ 140737488351232) :
    Calls Try.prog 8 #[.slice A n c, .slice B m d] w fun e w' => e = .returned (.bool true) ∧ Only [] w w' := by
  unfold maxLen at hmx
  obtain ⟨i0, hi, hz0, hz1, hz2⟩ := info_parts infoByte
  by_cases h1 : 1500 < n + m
  · have h1' : (1500 : Int) < (n : Int) + (m : Int) := by omega
    go_enter Try.func8, Try.ntmps8
    go_wp2
    go_ret
    exact ⟨rfl, Only.refl _ _⟩
  · have h1' : (n : Int) + (m : Int) ≤ 1500 := by omega
    obtain ⟨k, hk⟩ : ∃ k : Nat, k = n / 3 * 3 := ⟨_, rfl⟩
    have hkn : k ≤ n := by omega
    have hk3 : (n : Int) / 3 * 3 = (k : Int) := by omega
    have hkc : (k : Int) ≤ (c : Int) := by omega
    have hkN : k ≤ c := by omega
    have hs := ha.pre hkn
    rw [bvs_take] at hs
    have hal : (a.take k).length = k := by rw [List.length_take]; have h := ha.len; rw [bvs_length] at h; omega
    have hbl : b.length = m := by have h := hb.len; rw [bvs_length] at h; exact h
    obtain ⟨t, ht⟩ : ∃ t, t = St (enc64 (a.take k ++ b)) := ⟨_, rfl⟩
    obtain ⟨ta, hta⟩ : ∃ t, t = St (enc64 (a.take k)) := ⟨_, rfl⟩
    obtain ⟨tb, htb⟩ : ∃ t, t = St (enc64 b) := ⟨_, rfl⟩
    have HJ : t = ta ++ tb := by
      have h := enc_join (a.take k) b (by rw [hal]; omega)
      have e : (ta ++ tb).data.toList = t.data.toList := by rw [app_data, hta, htb, ht, St_list, St_list, St_list, h]
      rw [← St_data t, ← e, St_data]
    have PA : Hid (∀ W, (Op.stringOp .add ta tb).run Try.prog W = .ok (.string t) W) := fun W => by
      rw [HJ]
      refine run_string_add_sum _ _ _ ?_
      rw [← ByteArray.size_append, ← HJ, ht, St_size, enc_length, List.length_append, hal, hbl]
      omega
    have HT := Lib.hid ht
    have HTA := Lib.hid hta
    have HTB := Lib.hid htb
    have hp := PA.out
    clear hk ht hta htb HJ hal hbl
    have ho0 : Own (w.alloc (.cells #[] 5)) 5 (some ⟨w.heap.size, 0, none⟩) 0 0 [] := World.ownsRow_lit w #[] 0 (Nat.zero_le _) (Nat.zero_le _) rfl
    go_enter Try.func8, Try.ntmps8
    go_wp2_with (first
      | (at_builtin; refine wpList_append_sl rfl (.tmp 17) (.tmp 18) 22 rfl 5 i0 (.int .u8 0) 1 Try.underlying22 hi hz0 hz1 hz2 rfl _ _ _ _ rfl ho0 A k c _ rfl (hs.alloc _) (bvs_one _) (by unfold maxLen; omega) (by omega) ?_; intro A1 c1 w1 HV1 HO1 HB1; rw [List.nil_append] at HV1; rw [Nat.zero_add] at HV1)
      | (at_builtin; refine wpList_append_sl rfl (.tmp 19) (.tmp 20) 22 rfl 5 i0 (.int .u8 0) 1 Try.underlying22 hi hz0 hz1 hz2 rfl A1 k c1 _ rfl HV1 B m d _ rfl (hb.keep (((Only.refl [] w).alloc _).trans HO1 (fun x hx => .inr (by simp at hx; omega)))) (bvs_one _) (by unfold maxLen; omega) (by omega) ?_; intro A2 c2 w2 HV2 HO2 HB2; rw [← bvs_append] at HV2; have hO2 : Only [] w w2 := (((Only.refl [] w).alloc _).trans HO1 (fun x hx => .inr (by simp at hx; omega))).trans HO2 (fun x hx => .inr (by rcases HB1 x hx with h | h <;> simp at h <;> omega)))
      | (go_at_call 11; (with_reducible refine (Encode_as A2 (k + m) c2 (a.take k ++ b) t w2 HT HV2.sl HV2.cap (by omega)).mono ?_); rintro e w3 ⟨rfl, HO3⟩; have hO3 := hO2.then HO3)
      | (go_at_call 11; (with_reducible refine (Encode_as A k c (a.take k) ta w3 HTA (hs.keep hO3) (by omega) (by omega)).mono ?_); rintro e w4 ⟨rfl, HO4⟩; have hO4 := hO3.then HO4)
      | (go_at_call 11; (with_reducible refine (Encode_as B m d b tb w4 HTB (hb.keep hO4) hd (by omega)).mono ?_); rintro e w5 ⟨rfl, HO5⟩; have hO5 := hO4.then HO5)
      | (go_at_call 13; refine (known_any _).mono ?_; rintro e w6 ⟨rfl, HO6⟩))
    go_ret
    exact ⟨rfl, hO5.then HO6⟩
end Go.Proofs.Ytjfahkbhhpcnnaa
