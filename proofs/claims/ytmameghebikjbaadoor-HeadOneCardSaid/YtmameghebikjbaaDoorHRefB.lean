/-
  The document's Text, Colon, Trim.
-/
import Derived.Test.YtmameghebikjbaaDoorHRefA
namespace Go.Proofs.YtmameghebikjbaaDoor
open Go.RowKit Go.Instr

theorem suf_hit {l : List UInt8} {m : Nat} (h : l.length = m + 1) {x : UInt8} (hx : l[m]'(by omega) = x) : Lib.trimSuffix l [x] = l.take m := by
  have e : l = l.take m ++ [x] := by
    rw [← hx, ← List.take_succ_eq_append_getElem (by omega), List.take_of_length_le (by omega)]
  conv => lhs; rw [e]
  exact trimSuffix_snoc _ _
theorem suf_miss {l : List UInt8} {m : Nat} (h : l.length = m + 1) {x : UInt8} (hx : l[m]'(by omega) ≠ x) : Lib.trimSuffix l [x] = l := by
  refine trimSuffix_not fun y hy => ?_
  rw [List.getLast?_eq_getElem?, show l.length - 1 = m by omega, List.getElem?_eq_getElem (by omega)] at hy
  injection hy with hy
  rw [← hy]
  exact hx
theorem ne_of_nat {a b : UInt8} (h : a.toNat ≠ b.toNat) : a ≠ b := fun e => h (by rw [e])
theorem eq_of_nat {a b : UInt8} (h : a.toNat = b.toNat) : a = b := UInt8.toNat_inj.1 h

section
variable {w : World} {A : Option Addr} {n c : Nat} {l : List UInt8}
set_option maxHeartbeats 1000000 in
theorem refText_any (hs : Bt w A n c l) : Calls Tryd.prog 36 #[.slice A n c] w fun e w' => e = .returned (.slice A (tx l).length c) ∧ w = w' := by
  have hl := hs.len
  have hcap := hs.cap
  have hmax := hs.max
  have hpre := fun (k : Nat) (hk : k ≤ n) => hs.pre hk
  cases n with
  | zero =>
    obtain rfl : l = [] := List.eq_nil_of_length_eq_zero hl
    rw [show tx [] = [] from rfl, List.length_nil]
    clear hpre hs
    go_enter Tryd.func36, Tryd.ntmps36
    go_wp2
    go_ret
    exact ⟨rfl, rfl⟩
  | succ m =>
    obtain ⟨ad, rfl, hc⟩ := hs.at_ (k := m) (by omega) (by omega)
    obtain ⟨y, hy⟩ : ∃ y : Nat, (l[m]'(by omega)).toNat = y := ⟨_, rfl⟩
    rw [hy] at hc
    have hm1 : (m : Int) + 1 ≤ (c : Int) := by omega
    by_cases h10 : y = 10
    · have hT : tx l = tr (l.take m) := by
        unfold tx
        rw [suf_hit hl (eq_of_nat (by rw [hy, h10]; rfl))]
      have hyb : ((y : Int) == 10) = true := by rw [h10]; rfl
      have hp := hpre m (by omega)
      rw [hT]
      obtain ⟨l1, hl1⟩ : ∃ l1, l.take m = l1 := ⟨_, rfl⟩
      rw [hl1] at hp ⊢
      have hl2 := hp.len
      clear h10 hy hT hl hl1 hpre hs
      cases m with
      | zero =>
        obtain rfl : l1 = [] := List.eq_nil_of_length_eq_zero hl2
        rw [show tr [] = [] from rfl, List.length_nil]
        clear hp
        have hc' : w.cell? ad = some (.int .u8 (y : Int)) := by rwa [add_zero] at hc
        clear hc
        go_enter Tryd.func36, Tryd.ntmps36
        go_wp2
        go_ret
        exact ⟨rfl, rfl⟩
      | succ q =>
        obtain ⟨ad2, e, hc2⟩ := hp.at_ (k := q) (by omega) (by omega)
        injection e with e
        subst e
        obtain ⟨z, hz⟩ : ∃ z : Nat, (l1[q]'(by omega)).toNat = z := ⟨_, rfl⟩
        rw [hz] at hc2
        have hc' : w.cell? ⟨ad.block, ad.off + (q + 1), none⟩ = some (.int .u8 (y : Int)) := by
          have : ad.add (q + 1) = ⟨ad.block, ad.off + (q + 1), none⟩ := by simp [Addr.add]
          rwa [this] at hc
        by_cases h13 : z = 13
        · have hT : tr l1 = l1.take q := suf_hit hl2 (eq_of_nat (by rw [hz, h13]; rfl))
          have hzb : ((z : Int) == 13) = true := by rw [h13]; rfl
          rw [hT, List.length_take, show min q l1.length = q by omega]
          clear h13 hz hT hl2 hp
          go_enter Tryd.func36, Tryd.ntmps36
          go_wp2
          go_ret
          exact ⟨rfl, rfl⟩
        · have hT : tr l1 = l1 := suf_miss hl2 (ne_of_nat (by rw [hz]; exact h13))
          have hzb : ((z : Int) == 13) = false := by rw [beq_eq_false_iff_ne]; omega
          rw [hT, hl2]
          clear h13 hz hT hl2 hp
          go_enter Tryd.func36, Tryd.ntmps36
          go_wp2
          go_ret
          exact ⟨rfl, rfl⟩
    · have hT : tx l = tr l := by
        unfold tx
        rw [suf_miss hl (ne_of_nat (by rw [hy]; exact h10))]
      have hyb : ((y : Int) == 10) = false := by rw [beq_eq_false_iff_ne]; omega
      rw [hT]
      by_cases h13 : y = 13
      · have hT : tr l = l.take m := suf_hit hl (eq_of_nat (by rw [hy, h13]; rfl))
        have hzb : ((y : Int) == 13) = true := by rw [h13]; rfl
        rw [hT, List.length_take, show min m l.length = m by omega]
        clear h13 h10 hy hT hl hpre hs
        go_enter Tryd.func36, Tryd.ntmps36
        go_wp2
        go_ret
        exact ⟨rfl, rfl⟩
      · have hT : tr l = l := suf_miss hl (ne_of_nat (by rw [hy]; exact h13))
        have hzb : ((y : Int) == 13) = false := by rw [beq_eq_false_iff_ne]; omega
        rw [hT, hl]
        clear h13 h10 hy hT hl hpre hs
        go_enter Tryd.func36, Tryd.ntmps36
        go_wp2
        go_ret
        exact ⟨rfl, rfl⟩
end

theorem fi_hit {x : UInt8} {l : List UInt8} {k : Nat} (h : k < l.length) (hx : l[k] = x) : fi x (l.drop k) = 0 := by
  rw [List.drop_eq_getElem_cons h, fi_cons, if_pos hx]
theorem fi_miss {x : UInt8} {l : List UInt8} {k : Nat} (h : k < l.length) (hx : l[k] ≠ x) : fi x (l.drop k) = fi x (l.drop (k + 1)) + 1 := by
  rw [List.drop_eq_getElem_cons h, fi_cons, if_neg hx]
/-- A text's byte. -/
theorem text_at (s : ByteArray) {k : Nat} (_h : k < s.size) (h' : k < s.data.toList.length) : s[k] = s.data.toList[k] := rfl
theorem refColon_any (s : ByteArray) (hbig : s.size ≤ 4096) (w : World) : Calls Tryd.prog 47 #[.string s, .int .u8 58] w fun e w' => e = .returned (.int .i64 (if fi 58 s.data.toList < s.size then (fi 58 s.data.toList : Int) else -1)) ∧ w = w' := by
  obtain ⟨I, hI⟩ : ∃ I : Int, (if fi 58 s.data.toList < s.size then (fi 58 s.data.toList : Int) else -1) = I := ⟨_, rfl⟩
  rw [hI]
  have HI := Lib.hid hI
  clear hI
  go_enter Tryd.func47, Tryd.ntmps47
  go_wp2
  go_loop [5] (fun i => ∃ j : Nat, j ≤ s.size ∧ i = .int .i64 (j : Int) ∧ Hid (j + fi 58 (s.data.toList.drop j) = fi 58 s.data.toList)) (fun i => s.size - (intOf i).toNat)
  case atStart => exact ⟨0, by omega, rfl, by show _ = _; simp⟩
  case round =>
    obtain ⟨j, hj, rfl, HN⟩ := hrel
    by_cases hlt : j < s.size
    · have hjl : j < s.data.toList.length := by simpa using hlt
      obtain ⟨y, hy⟩ : ∃ y : Nat, s[j].toNat = y := ⟨_, rfl⟩
      by_cases h58 : y = 58
      · have hx : s.data.toList[j] = 58 := eq_of_nat (by rw [← text_at s hlt hjl, hy, h58]; rfl)
        have HE : Hid (fi 58 s.data.toList = j) := by
          show _ = _
          rw [← HN.out, fi_hit hjl hx]
          rfl
        have hyb : ((s[j].toNat : Int) == 58) = true := by rw [hy, h58]; rfl
        clear hx hy h58
        go_wp2
        go_ret
        refine ⟨?_, rfl⟩
        rw [← HI.out, HE.out, if_pos hlt]
        rfl
      · have hx : s.data.toList[j] ≠ 58 := fun h => h58 (by rw [← hy, text_at s hlt hjl, h]; rfl)
        have HE : Hid (j + 1 + fi 58 (s.data.toList.drop (j + 1)) = fi 58 s.data.toList) := by
          show _ = _
          rw [← HN.out, fi_miss hjl hx]
          omega
        have hyb : ((s[j].toNat : Int) == 58) = false := by rw [hy, beq_eq_false_iff_ne]; omega
        clear hx hy h58
        go_wp2
        go_round
        case rel => exact ⟨j + 1, by omega, by go_num, HE⟩
        case measure => simp [intOf]; omega
    · obtain rfl : j = s.size := by omega
      have HE : Hid (¬ fi 58 s.data.toList < s.size) := by
        show ¬ _
        rw [← HN.out]
        omega
      go_wp2
      go_ret
      refine ⟨?_, rfl⟩
      rw [← HI.out, if_neg HE.out]
      rfl
end Go.Proofs.YtmameghebikjbaaDoor
