/-
  span.number: the number that a text begins with, and what stands behind it.
-/
import Derived.Test.YtkdaemjdiafccaaDoorNRefNum
namespace Go.Proofs.YtkdaemjdiafccaaDoor
open Go.RowKit Go.Instr

theorem pre_hit {l : List UInt8} {x : UInt8} (h : l.head? = some x) : Lib.hasPrefix l [x] = true ∧ Lib.trimPrefix l [x] = l.drop 1 := by
  obtain ⟨r, rfl⟩ := head_cons h
  have h1 : Lib.hasPrefix (x :: r) [x] = true := by simp [Lib.hasPrefix]
  refine ⟨h1, ?_⟩
  unfold Lib.trimPrefix
  rw [if_pos h1]
  rfl
theorem pre_miss {l : List UInt8} {x : UInt8} (h : l.head? ≠ some x) : Lib.hasPrefix l [x] = false ∧ Lib.trimPrefix l [x] = l := by
  have h1 : Lib.hasPrefix l [x] = false := by
    cases l with
    | nil => simp [Lib.hasPrefix]
    | cons y r =>
      have e : ¬ x = y := fun e => h (by rw [e]; rfl)
      simp [Lib.hasPrefix, List.isPrefixOf, e]
  refine ⟨h1, ?_⟩
  unfold Lib.trimPrefix
  rw [h1]
  simp
theorem cut_hit (s : ByteArray) (x : UInt8) (h : s.data.toList.head? = some x) (w : World) : Calls Tryd.prog 20 #[.string s, .string ⟨#[x]⟩] w fun e w' => e = .returned (.tuple #[.string (St (s.data.toList.drop 1)), .bool true]) ∧ w = w' :=
  (Tryd.strings_CutPrefix s ⟨#[x]⟩ w).mono fun e w' he => ⟨by rw [he.1, show (⟨#[x]⟩ : ByteArray).data.toList = [x] from rfl, (pre_hit h).1, (pre_hit h).2], he.2.symm⟩
theorem cut_miss (s : ByteArray) (x : UInt8) (h : s.data.toList.head? ≠ some x) (w : World) : Calls Tryd.prog 20 #[.string s, .string ⟨#[x]⟩] w fun e w' => e = .returned (.tuple #[.string s, .bool false]) ∧ w = w' :=
  (Tryd.strings_CutPrefix s ⟨#[x]⟩ w).mono fun e w' he => ⟨by rw [he.1, show (⟨#[x]⟩ : ByteArray).data.toList = [x] from rfl, (pre_miss h).1, (pre_miss h).2, show (⟨s.data.toList.toArray⟩ : ByteArray) = s from St_data s], he.2.symm⟩

/-- What is answered of a number. -/
def numA (o : Option (Nat × List UInt8)) : Value := match o with
  | none => .tuple #[.int .i64 0, .string ⟨#[]⟩, .bool false]
  | some (n, q) => .tuple #[.int .i64 (n : Int), .string (St q), .bool true]
theorem suf_txt (t : TypeId) (hu : Tryd.prog.underlying t = some .string) (s : ByteArray) (k : Nat) (hk : k ≤ s.size) (W : World) :
    (Instr.slice t (.string s) (some (.int .i64 (k : Int))) none none).run Tryd.prog W = .ok (.string (St (s.data.toList.drop k))) W := by
  rw [run_slice_string_from_if W t s .i64 _ hu, if_pos ⟨by omega, by omega⟩]
  congr 2
  apply ByteArray.ext
  apply Array.toList_inj.1
  rw [Lib.extract_data, St_list, Int.toNat_natCast, List.take_of_length_le (by simp)]
theorem grd_full (d q : List UInt8) (hd : d.all isDig = true) (h7 : d.length = 7) : grd (d ++ q) = d := by
  unfold grd
  rw [List.take_append, List.take_of_length_le (by omega), List.takeWhile_append_of_pos (fun x hx => List.all_eq_true.1 hd x hx), h7]
  simp
/-- Where the digits end. -/
theorem grd_end {l : List UInt8} {k M : Nat} (hM : M = min l.length 7) (hk : k ≤ M) (hd : (l.take k).all isDig = true) (he : k = M ∨ ∃ h : k < l.length, isDig l[k] = false) : grd l = l.take k := by
  have hl : (l.take k).length = k := by rw [List.length_take]; omega
  have e : l.take k ++ l.drop k = l := List.take_append_drop k l
  by_cases h7 : k = 7
  · have := grd_full (l.take k) (l.drop k) hd (by omega)
    rwa [e] at this
  · have := grd_stop (l.take k) (l.drop k) hd (by omega) (fun c hc => by
      rcases he with he | ⟨hkl, he⟩
      · rw [List.drop_of_length_le (by omega)] at hc; cases hc
      · rw [List.drop_eq_getElem_cons hkl] at hc
        injection hc with hc
        rw [← hc]
        exact he)
    rwa [e] at this
theorem numS_of {l : List UInt8} {k : Nat} (h42 : l.head? ≠ some 42) (hg : grd l = l.take k) (hk : k ≤ l.length) : numS l = if k = 0 then none else if l.head? = some 48 then none else some (dv 0 (l.take k), l.drop k) := by
  have hl : (l.take k).length = k := by rw [List.length_take]; omega
  unfold numS
  rw [if_neg h42, hg, hl]
  by_cases h0 : k = 0
  · subst h0; simp
  · rw [if_neg h0, if_neg (by intro e; rw [e] at hl; simp at hl; omega)]

set_option maxHeartbeats 1000000 in
set_option maxRecDepth 100000 in
theorem number_any (s : ByteArray) (w : World) (hbig : s.size ≤ 140737488355328) : Calls Tryd.prog 19 #[.string s] w fun e w' => e = .returned (numA (numS s.data.toList)) ∧ Only [] w w' := by
  by_cases h42 : s.data.toList.head? = some 42
  · have hc := fun W => cut_hit s 42 h42 W
    have HA : Hid (numA (numS s.data.toList) = .tuple #[.int .i64 1073741824, .string (St (s.data.toList.drop 1)), .bool true]) := by
      show _ = _
      unfold numS
      rw [if_pos h42]
      rfl
    obtain ⟨V, hV⟩ : ∃ V, numA (numS s.data.toList) = V := ⟨_, rfl⟩
    rw [hV] at HA ⊢
    obtain ⟨t, ht⟩ : ∃ t, St (s.data.toList.drop 1) = t := ⟨_, rfl⟩
    rw [ht] at HA hc
    clear h42 hV ht
    go_enter Tryd.func19, Tryd.ntmps19
    go_wp2_with (go_at_call 20; with_reducible refine (hc _).mono ?_; rintro e w2 ⟨rfl, rfl⟩)
    go_ret3
    exact ⟨by rw [HA.out]; rfl, Only.refl _ _⟩
  · have hc := fun W => cut_miss s 42 h42 W
    obtain ⟨l, hl⟩ : ∃ l, s.data.toList = l := ⟨_, rfl⟩
    have hlen : l.length = s.size := by rw [← hl]; simp
    have hsuf := fun (k : Nat) (hk : k ≤ s.size) => suf_txt 9 Tryd.underlying9 s k hk
    rw [hl] at h42 hsuf ⊢
    obtain ⟨M, hM⟩ : ∃ M, M = min l.length 7 := ⟨_, rfl⟩
    have hmin : min (s.size : Int) 7 = (M : Int) := by omega
    have hM1 : M ≤ s.size := by omega
    have hM7 : M ≤ 7 := by omega
    obtain ⟨V, hV⟩ : ∃ V, numA (numS l) = V := ⟨_, rfl⟩
    have HV : Hid (∀ k, k ≤ M → grd l = l.take k → V = numA (if k = 0 then none else if l.head? = some 48 then none else some (dv 0 (l.take k), l.drop k))) := fun k hk hg => by
      rw [← hV, numS_of h42 hg (by omega)]
    have HEND : Hid (∀ k, k ≤ M → (l.take k).all isDig = true → (k = M ∨ ∃ h : k < l.length, isDig l[k] = false) → grd l = l.take k) := fun k h1 h2 h3 => grd_end hM h1 h2 h3
    rw [hV]
    have HL := Lib.hid hl
    have HLEN := Lib.hid hlen
    have HSUF := Lib.hid hsuf
    clear hl hV hM h42 hlen hsuf
    go_enter Tryd.func19, Tryd.ntmps19
    go_wp2_with (go_at_call 20; with_reducible refine (hc _).mono ?_; rintro e w2 ⟨rfl, rfl⟩)
-- LOOP
    go_loop [2, 5] (fun nv iv => ∃ (k Z : Nat), nv = .int .i64 (Z : Int) ∧ iv = .int .i64 (k : Int) ∧ k ≤ M ∧ Hid (Z = dv 0 (l.take k) ∧ (l.take k).all isDig = true)) (fun _ iv => M - (intOf iv).toNat)
    case atStart => exact ⟨0, 0, rfl, rfl, by omega, by rw [List.take_zero]; exact (dv_nil 0).symm, by rw [List.take_zero]; rfl⟩
    case round =>
      obtain ⟨k, Z, rfl, rfl, hk, HK⟩ := hrel
      by_cases hlt : k < M
      · have hlt' : (k : Int) < (M : Int) := by omega
        have hks : k < s.size := by omega
        have hkl : k < l.length := by rw [HLEN.out]; omega
        have hck : (s[k] : UInt8) = l[k] := by have := HL.out; subst this; exact txt_at s (by omega) hkl
        have hZ : Z < 10000000 := by
          have h := dv_lt (l.take k) 0 HK.out.2
          rw [← HK.out.1, List.length_take] at h
          have h2 : 10 ^ min k l.length ≤ 10 ^ 7 := Nat.pow_le_pow_right (by omega) (by omega)
          omega
        obtain ⟨y, hy⟩ : ∃ y : Nat, s[k].toNat = y := ⟨_, rfl⟩
        have hnat : l[k].toNat = y := by rw [← hck, hy]
        have hy256 : y < 256 := by rw [← hy]; exact byte_lt _
        by_cases hA : 48 ≤ y
        · have hA' : (48 : Int) ≤ (s[k].toNat : Int) := by rw [hy]; omega
          by_cases hB : y ≤ 57
          · have hB' : (s[k].toNat : Int) ≤ 57 := by rw [hy]; omega
            obtain ⟨k1, k2⟩ := take_dig hkl HK.out.2 (dig_yes (by rw [hnat]; omega) (by rw [hnat]; omega))
            have HR : Hid (∃ (k' Z' : Nat), Value.int .i64 (10 * (Z : Int) + ((s[k].toNat : Int) - 48)) = .int .i64 (Z' : Int) ∧ Value.int .i64 ((k : Int) + 1) = .int .i64 (k' : Int) ∧ k' ≤ M ∧ Hid (Z' = dv 0 (l.take k') ∧ (l.take k').all isDig = true)) := by
              refine ⟨k + 1, dv 0 (l.take (k + 1)), ?_, by simp, by omega, rfl, k1⟩
              rw [k2, ← HK.out.1, hy]
              unfold stp
              rw [hnat]
              congr 1
              omega
            have HM : Hid (M - (intOf (.int .i64 ((k : Int) + 1))).toNat < M - (intOf (.int .i64 (k : Int))).toNat) := by
              show _ < _
              simp [intOf]
              omega
            clear hck hnat hy k1 k2 hc
            go_wp2
            exact ⟨HR.out, HM.out⟩
          · have hB' : ¬ (s[k].toNat : Int) ≤ 57 := by rw [hy]; omega
            have hdg : ∃ h : k < l.length, isDig l[k] = false := ⟨hkl, dig_no (.inr (by rw [hnat]; omega))⟩
            have HG : Hid (V = numA (if k = 0 then none else if l.head? = some 48 then none else some (dv 0 (l.take k), l.drop k))) := HV.out k hk (HEND.out k hk HK.out.2 (.inr hdg))
            by_cases hk0 : k = 0
            · have HE : Hid (V = .tuple #[.int .i64 0, .string ⟨#[]⟩, .bool false]) := by
                show _ = _
                rw [HG.out, if_pos hk0]
                rfl
              have hkb : ((k : Int) == 0) = true := by rw [hk0]; rfl
              clear hk0 hc hck hnat hy hdg
              go_wp2
              go_ret3
              exact ⟨by rw [HE.out]; rfl, Only.refl _ _⟩
            · have hkb : ((k : Int) == 0) = false := by rw [beq_eq_false_iff_ne]; omega
              have h0 : 0 < s.size := by omega
              have h0l : 0 < l.length := by rw [HLEN.out]; exact h0
              have hz0 : (s[0] : UInt8) = l[0] := by have := HL.out; subst this; exact txt_at s h0 h0l
              have hhead : l.head? = some l[0] := by rw [List.head?_eq_getElem?, List.getElem?_eq_getElem h0l]
              obtain ⟨y0, hy0⟩ : ∃ y : Nat, s[0].toNat = y := ⟨_, rfl⟩
              by_cases h48 : y0 = 48
              · have HE : Hid (V = .tuple #[.int .i64 0, .string ⟨#[]⟩, .bool false]) := by
                  show _ = _
                  rw [HG.out, if_neg hk0, if_pos (by rw [hhead, ← hz0]; congr 1; exact u8_eq (by rw [hy0, h48]; rfl))]
                  rfl
                have hyb : ((s[0].toNat : Int) == 48) = true := by rw [hy0, h48]; rfl
                clear hk0 hz0 hhead h0l hy0 hc hck hnat hy hdg
                go_wp2
                go_ret3
                exact ⟨by rw [HE.out]; rfl, Only.refl _ _⟩
              · have HE : Hid (V = .tuple #[.int .i64 (Z : Int), .string (St (l.drop k)), .bool true]) := by
                  show _ = _
                  rw [HG.out, if_neg hk0, if_neg (by
                    rw [hhead, ← hz0]
                    intro e
                    injection e with e
                    exact h48 (by rw [← hy0, e]; rfl)), HK.out.1]
                  rfl
                have hyb : ((s[0].toNat : Int) == 48) = false := by rw [hy0, beq_eq_false_iff_ne]; omega
                have hsf := HSUF.out k (by omega)
                obtain ⟨t, ht⟩ : ∃ t, St (l.drop k) = t := ⟨_, rfl⟩
                rw [ht] at HE hsf
                clear hk0 hz0 hhead h0l hy0 ht hc hck hnat hy hdg
                go_wp2_with fail
                go_quiet (fail)
                go_wp2_with fail
                go_ret3
                exact ⟨by rw [HE.out]; rfl, (Only.refl _ _).drewN _⟩
        · have hA' : ¬ (48 : Int) ≤ (s[k].toNat : Int) := by rw [hy]; omega
          have hdg : ∃ h : k < l.length, isDig l[k] = false := ⟨hkl, dig_no (.inl (by rw [hnat]; omega))⟩
          have HG : Hid (V = numA (if k = 0 then none else if l.head? = some 48 then none else some (dv 0 (l.take k), l.drop k))) := HV.out k hk (HEND.out k hk HK.out.2 (.inr hdg))
          by_cases hk0 : k = 0
          · have HE : Hid (V = .tuple #[.int .i64 0, .string ⟨#[]⟩, .bool false]) := by
              show _ = _
              rw [HG.out, if_pos hk0]
              rfl
            have hkb : ((k : Int) == 0) = true := by rw [hk0]; rfl
            clear hk0 hc hck hnat hy hdg
            go_wp2
            go_ret3
            exact ⟨by rw [HE.out]; rfl, Only.refl _ _⟩
          · have hkb : ((k : Int) == 0) = false := by rw [beq_eq_false_iff_ne]; omega
            have h0 : 0 < s.size := by omega
            have h0l : 0 < l.length := by rw [HLEN.out]; exact h0
            have hz0 : (s[0] : UInt8) = l[0] := by have := HL.out; subst this; exact txt_at s h0 h0l
            have hhead : l.head? = some l[0] := by rw [List.head?_eq_getElem?, List.getElem?_eq_getElem h0l]
            obtain ⟨y0, hy0⟩ : ∃ y : Nat, s[0].toNat = y := ⟨_, rfl⟩
            by_cases h48 : y0 = 48
            · have HE : Hid (V = .tuple #[.int .i64 0, .string ⟨#[]⟩, .bool false]) := by
                show _ = _
                rw [HG.out, if_neg hk0, if_pos (by rw [hhead, ← hz0]; congr 1; exact u8_eq (by rw [hy0, h48]; rfl))]
                rfl
              have hyb : ((s[0].toNat : Int) == 48) = true := by rw [hy0, h48]; rfl
              clear hk0 hz0 hhead h0l hy0 hc hck hnat hy hdg
              go_wp2
              go_ret3
              exact ⟨by rw [HE.out]; rfl, Only.refl _ _⟩
            · have HE : Hid (V = .tuple #[.int .i64 (Z : Int), .string (St (l.drop k)), .bool true]) := by
                show _ = _
                rw [HG.out, if_neg hk0, if_neg (by
                  rw [hhead, ← hz0]
                  intro e
                  injection e with e
                  exact h48 (by rw [← hy0, e]; rfl)), HK.out.1]
                rfl
              have hyb : ((s[0].toNat : Int) == 48) = false := by rw [hy0, beq_eq_false_iff_ne]; omega
              have hsf := HSUF.out k (by omega)
              obtain ⟨t, ht⟩ : ∃ t, St (l.drop k) = t := ⟨_, rfl⟩
              rw [ht] at HE hsf
              clear hk0 hz0 hhead h0l hy0 ht hc hck hnat hy hdg
              go_wp2_with fail
              go_quiet (fail)
              go_wp2_with fail
              go_ret3
              exact ⟨by rw [HE.out]; rfl, (Only.refl _ _).drewN _⟩
      · obtain rfl : k = M := by omega
        have HG : Hid (V = numA (if k = 0 then none else if l.head? = some 48 then none else some (dv 0 (l.take k), l.drop k))) := HV.out k hk (HEND.out k hk HK.out.2 (.inl rfl))
        by_cases hk0 : k = 0
        · have HE : Hid (V = .tuple #[.int .i64 0, .string ⟨#[]⟩, .bool false]) := by
            show _ = _
            rw [HG.out, if_pos hk0]
            rfl
          have hkb : ((k : Int) == 0) = true := by rw [hk0]; rfl
          clear hk0 hc
          go_wp2
          go_ret3
          exact ⟨by rw [HE.out]; rfl, Only.refl _ _⟩
        · have hkb : ((k : Int) == 0) = false := by rw [beq_eq_false_iff_ne]; omega
          have h0 : 0 < s.size := by omega
          have h0l : 0 < l.length := by rw [HLEN.out]; exact h0
          have hz0 : (s[0] : UInt8) = l[0] := by have := HL.out; subst this; exact txt_at s h0 h0l
          have hhead : l.head? = some l[0] := by rw [List.head?_eq_getElem?, List.getElem?_eq_getElem h0l]
          obtain ⟨y0, hy0⟩ : ∃ y : Nat, s[0].toNat = y := ⟨_, rfl⟩
          by_cases h48 : y0 = 48
          · have HE : Hid (V = .tuple #[.int .i64 0, .string ⟨#[]⟩, .bool false]) := by
              show _ = _
              rw [HG.out, if_neg hk0, if_pos (by rw [hhead, ← hz0]; congr 1; exact u8_eq (by rw [hy0, h48]; rfl))]
              rfl
            have hyb : ((s[0].toNat : Int) == 48) = true := by rw [hy0, h48]; rfl
            clear hk0 hz0 hhead h0l hy0 hc
            go_wp2
            go_ret3
            exact ⟨by rw [HE.out]; rfl, Only.refl _ _⟩
          · have HE : Hid (V = .tuple #[.int .i64 (Z : Int), .string (St (l.drop k)), .bool true]) := by
              show _ = _
              rw [HG.out, if_neg hk0, if_neg (by
                rw [hhead, ← hz0]
                intro e
                injection e with e
                exact h48 (by rw [← hy0, e]; rfl)), HK.out.1]
              rfl
            have hyb : ((s[0].toNat : Int) == 48) = false := by rw [hy0, beq_eq_false_iff_ne]; omega
            have hsf := HSUF.out k (by omega)
            obtain ⟨t, ht⟩ : ∃ t, St (l.drop k) = t := ⟨_, rfl⟩
            rw [ht] at HE hsf
            clear hk0 hz0 hhead h0l hy0 ht hc
            go_wp2_with fail
            go_quiet (fail)
            go_wp2_with fail
            go_ret3
            exact ⟨by rw [HE.out]; rfl, (Only.refl _ _).drewN _⟩
end Go.Proofs.YtkdaemjdiafccaaDoor
