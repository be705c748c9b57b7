/-
  mime.small, bare, next, partOf, bytesOf.
-/
import Derived.Test.YtakehogenioobaaDoorMStr
import Derived.Test.YtakehogenioobaaDoorHLow
import Derived.Test.YtakehogenioobaaDoorHFd
namespace Go.Proofs.YtakehogenioobaaDoor
open Go.RowKit Go.Instr

set_option maxRecDepth 100000 in
set_option maxHeartbeats 1000000 in
theorem mSmall_any (s : ByteArray) (hbig : s.size ≤ 4096) (w : World) : Calls Tryd.prog 23 #[.string s] w fun e w' => ∃ t : ByteArray, e = .returned (.string t) ∧ Hid (t = St (lows s.data.toList)) ∧ Only [] w w' := by
  obtain ⟨w1, c, hcv, hC1, hO1⟩ := conv_bytes s w
  obtain ⟨l, hl⟩ : ∃ l, s.data.toList = l := ⟨_, rfl⟩
  have hsl : l.length = s.size := by rw [← hl]; simp
  rw [hl] at hC1 ⊢
  obtain ⟨n, hn⟩ : ∃ n, s.size = n := ⟨_, rfl⟩
  rw [hn] at hcv hsl hbig
  have HL := Lib.hid hsl
  clear hn hl hsl
  go_enter Tryd.func23, Tryd.ntmps23
  go_wp2
  go_loopw [10, 4, 5] (fun i _ _ wr => ∃ k : Nat, k ≤ n ∧ i = .int .i64 (k : Int) ∧ Cg wr w.heap.size (lowK l k) ∧ Only [] w wr) (fun i _ _ _ => n - (intOf i).toNat)
  case atStart => exact ⟨0, Nat.zero_le _, rfl, by simpa [lowK] using hC1, hO1⟩
  case round =>
    obtain ⟨k, hk, rfl, hC, hO⟩ := hrel
    by_cases hlt : k < n
    · have hkl : k < l.length := by rw [HL.out]; exact hlt
      have hkK : k < (lowK l k).length := by rw [lowK_len]; exact hkl
      obtain ⟨hc, hf⟩ := hC k hkK
      rw [lowK_at hkl hkK] at hc
      have hlt' : (k : Int) < (n : Int) := by omega
      obtain ⟨x, hx⟩ : ∃ x, l[k] = x := ⟨_, rfl⟩
      have hset := lowK_set hkl
      have hsame := lowK_same hkl
      rw [hx] at hc hset hsame
      have hb := byte_lt x
      obtain ⟨y, hy⟩ : ∃ y : Nat, x.toNat = y := ⟨_, rfl⟩
      have hc' : wr.cell? ⟨w.heap.size, k, none⟩ = some (.int .u8 (y : Int)) := by rw [hc, ← hy]; rfl
      have hlow : (low x).toNat = if 65 ≤ y ∧ y ≤ 90 then y + 32 else y := by
        unfold low
        rw [← hy]
        by_cases h : 65 ≤ x.toNat ∧ x.toNat ≤ 90
        · rw [if_pos h, if_pos ⟨UInt8.le_iff_toNat_le.2 h.1, UInt8.le_iff_toNat_le.2 h.2⟩, UInt8.toNat_add]
          show (x.toNat + 32) % 256 = _
          omega
        · rw [if_neg h, if_neg (fun h2 : 65 ≤ x ∧ x ≤ 90 => h ⟨by have := UInt8.le_iff_toNat_le.1 h2.1; exact this, by have := UInt8.le_iff_toNat_le.1 h2.2; exact this⟩)]
      rw [hy] at hb
      have hr : y < 65 ∨ 90 < y ∨ (65 ≤ y ∧ y ≤ 90) := by omega
      rcases hr with h | h | ⟨h1, h2⟩
      · have h' : (y : Int) < 65 := by omega
        have HS : Hid (lowK l (k + 1) = lowK l k) := hsame (UInt8.toNat_inj.1 (by rw [hlow, if_neg (by omega), hy]))
        clear hlow hsame hset hx hy hc
        go_wp2
        go_roundw
        case rel => exact ⟨k + 1, by omega, by go_num, by rw [HS.out]; exact hC, hO⟩
        case measure => simp [intOf]; omega
      · have h' : (90 : Int) < (y : Int) := by omega
        have h'' : (65 : Int) ≤ (y : Int) := by omega
        have HS : Hid (lowK l (k + 1) = lowK l k) := hsame (UInt8.toNat_inj.1 (by rw [hlow, if_neg (by omega), hy]))
        clear hlow hsame hset hx hy hc
        go_wp2
        go_roundw
        case rel => exact ⟨k + 1, by omega, by go_num, by rw [HS.out]; exact hC, hO⟩
        case measure => simp [intOf]; omega
      · have h1' : (65 : Int) ≤ (y : Int) := by omega
        have e1 : IntKind.u8.wrap ((y : Int) - 65) = (y : Int) - 65 := IntWalk.u8_in _ (by omega)
        have e3 : IntKind.u8.wrap ((y : Int) - 65 + 97) = (y : Int) - 65 + 97 := IntWalk.u8_in _ (by omega)
        have e2 : IntKind.u8.wrap ((y : Int) - 65 + 97) = (y : Int) + 32 := by rw [e3]; omega
        clear e3
        have h2' : (y : Int) ≤ 90 := by omega
        have HC : Hid (Cg (wr.setCell ⟨w.heap.size, k, none⟩ (.int .u8 ((y : Int) + 32))) w.heap.size (lowK l (k + 1))) := by
          show Cg _ _ _
          have := hC.set hkK (low x)
          rw [hset] at this
          unfold bv at this
          rw [hlow, if_pos ⟨h1, h2⟩] at this
          simpa using this
        clear hlow hsame hset hx hy hc
        go_wp2
        go_roundw
        case rel => exact ⟨k + 1, by omega, by go_num, HC.out, hO.setCell (.inr (Nat.le_refl _)) _⟩
        case measure => simp [intOf]; omega
    · obtain rfl : k = n := by omega
      rw [lowK_all l (by rw [HL.out]; exact Nat.le_refl _)] at hC
      have hS := hC.sl
      have hll : (lows l).length = k := by simp [lows, HL.out]
      rw [hll] at hS
      have hcv2 := run_str_sl (P := Tryd.prog) 24 9 5 _ k c (lows l) Tryd.underlying24 Tryd.underlying5 Tryd.underlying9 hS
      obtain ⟨t, ht⟩ : ∃ t, St (lows l) = t := ⟨_, rfl⟩
      rw [ht] at hcv2
      have HT := Lib.hid ht
      clear ht hll
      go_wp2
      go_ret
      exact ⟨t, rfl, HT.out.symm, hO⟩


set_option maxHeartbeats 1000000 in
theorem bare_any (l : List UInt8) (hb : l.length ≤ 1048576) (w : World) : Calls Tryd.prog 40 #[.string (St l)] w fun e w' => e = .returned (.string (St (bare l))) ∧ w = w' := by
  have c1 := sPre_any l 34 w
  have c2 := sSuf_any l (by omega) 34 w
  have hsz := St_size l
  by_cases h : 2 ≤ l.length
  · have h2 : (2 : Int) ≤ ((St l).size : Int) := by omega
    have hle : ((St l).size : Int) ≤ 1048576 := by omega
    have P1 := run_mid_str (P := Tryd.prog) 9 Tryd.underlying9 l 1 (l.length - 1) 1 (((St l).size : Int) - 1) rfl (by omega) (by omega) (by omega)
    have hq : bare l = if (Lib.hasPrefix l [34] && Lib.hasSuffix l [34]) = true then (l.take (l.length - 1)).drop 1 else l := by
      unfold bare
      by_cases h3 : Lib.hasPrefix l [34] = true <;> by_cases h4 : Lib.hasSuffix l [34] = true <;> simp [h, h3, h4]
    obtain ⟨t, ht⟩ : ∃ t, St l = t := ⟨_, rfl⟩
    obtain ⟨u, hu⟩ : ∃ u, St ((l.take (l.length - 1)).drop 1) = u := ⟨_, rfl⟩
    rw [ht, hu] at P1
    rw [ht] at c1 c2 h2 hle hsz ⊢
    obtain ⟨b1, hb1⟩ : ∃ b, Lib.hasPrefix l [34] = b := ⟨_, rfl⟩
    obtain ⟨b2, hb2⟩ : ∃ b, Lib.hasSuffix l [34] = b := ⟨_, rfl⟩
    rw [hb1] at c1 hq
    rw [hb2] at c2 hq
    have HQ : Hid (St (bare l) = if (b1 && b2) = true then u else t) := by
      show _ = _
      rw [hq, ← hu, ← ht]
      split <;> rfl
    clear hq hb1 hb2 ht hu hsz h
    rw [HQ.out]
    clear HQ
    cases b1 with
    | false =>
      go_enter Tryd.func40, Tryd.ntmps40
      go_wp2_with (go_at_call 56; (with_reducible refine c1.mono ?_); rintro e w1 ⟨rfl, rfl⟩)
      go_ret
      exact ⟨rfl, rfl⟩
    | true =>
      cases b2 with
      | false =>
        go_enter Tryd.func40, Tryd.ntmps40
        go_wp2_with first
          | (go_at_call 56; (with_reducible refine c1.mono ?_); rintro e w1 ⟨rfl, rfl⟩)
          | (go_at_call 57; (with_reducible refine c2.mono ?_); rintro e w1 ⟨rfl, rfl⟩)
        go_ret
        exact ⟨rfl, rfl⟩
      | true =>
        go_enter Tryd.func40, Tryd.ntmps40
        go_wp2_with first
          | (go_at_call 56; (with_reducible refine c1.mono ?_); rintro e w1 ⟨rfl, rfl⟩)
          | (go_at_call 57; (with_reducible refine c2.mono ?_); rintro e w1 ⟨rfl, rfl⟩)
        go_ret
        exact ⟨rfl, rfl⟩
  · have h2 : ¬ (2 : Int) ≤ ((St l).size : Int) := by omega
    have hq : bare l = l := by unfold bare; rw [if_neg (fun h3 => h h3.1)]
    rw [hq]
    obtain ⟨t, ht⟩ : ∃ t, St l = t := ⟨_, rfl⟩
    rw [ht] at h2 ⊢
    clear c1 c2 hsz ht hq h
    go_enter Tryd.func40, Tryd.ntmps40
    go_wp2_with fail
    go_ret
    exact ⟨rfl, rfl⟩

section
variable {w : World} {A : Option Addr} {n c : Nat} {l : List UInt8}
theorem bt_cut (hs : Bt w A n c l) {k : Nat} (hk : k ≤ n) : ∃ A2 c2, (∀ W, (Instr.slice 24 (.slice A n c) (some (.int .i64 (k : Int))) none none).run Tryd.prog W = .ok (.slice A2 (n - k) c2) W) ∧ Bt w A2 (n - k) c2 (l.drop k) ∧ blks A2 = blks A := by
  refine ⟨_, _, fun W => ?_, hs.cut hk, blks_from A c k⟩
  have h1 : (k : Int) ≤ (n : Int) := by omega
  have hnil := hs.nil
  have hcap := hs.cap
  by_cases hck : c = k
  · subst hck
    obtain rfl : n = c := by omega
    go_simp
  · cases A with
    | none => have := hnil rfl; omega
    | some ad => go_simp
theorem bt_mid (hs : Bt w A n c l) {i j : Nat} (hij : i ≤ j) (hj : j ≤ n) : ∃ A2 c2, (∀ W, (Instr.slice 24 (.slice A n c) (some (.int .i64 (i : Int))) (some (.int .i64 (j : Int))) none).run Tryd.prog W = .ok (.slice A2 (j - i) c2) W) ∧ Bt w A2 (j - i) c2 ((l.take j).drop i) ∧ blks A2 = blks A := by
  refine ⟨_, _, fun W => ?_, (hs.pre hj).cut hij, blks_from A c i⟩
  have h1 : (i : Int) ≤ (j : Int) := by omega
  have h2 : (j : Int) ≤ (c : Int) := by have := hs.cap; omega
  have hnil := hs.nil
  have hcap := hs.cap
  by_cases hck : c = i
  · subst hck
    obtain rfl : j = c := by omega
    go_simp
  · cases A with
    | none => have := hnil rfl; omega
    | some ad => go_simp
end
end Go.Proofs.YtakehogenioobaaDoor
