/-
  box: is a number in a row (slices.Contains, among)? Where is a message (Find, both)?
-/
import Derived.Test.YthaodlegpjedoaaVMem
namespace Go.Proofs.Ythaodlegpjedoaa
open Go.RowKit Go.Instr

theorem has_hit {us : List Int} {u : Int} {k : Nat} (h : k < us.length) (he : us[k] = u) : hasU us u = true := by
  unfold hasU
  exact List.contains_iff_mem.2 (he ▸ List.getElem_mem h)
theorem has_none {us : List Int} {u : Int} (h : ∀ j (hj : j < us.length), us[j] ≠ u) : hasU us u = false := by
  rw [Bool.eq_false_iff]
  intro e
  obtain ⟨j, hj, he⟩ := List.mem_iff_getElem.1 (List.contains_iff_mem.1 e)
  exact h j hj he
theorem Sl.int_at {w : World} {A : Option Addr} {n : Nat} {us : List Int} (h : Sl w A n (ivs us)) {k : Nat} (hk : k < n) (hk' : k < us.length) : ∃ ad, A = some ad ∧ w.cell? (ad.add k) = some (.int .i64 us[k]) := by
  obtain ⟨ad, u, e, hu, hc⟩ := h.at_ hk
  rw [ivs_get _ _ hk'] at hu
  injection hu with hu
  subst hu
  exact ⟨ad, e, hc⟩
set_option maxRecDepth 100000 in
theorem Index_any {w : World} {A : Option Addr} {n c : Nat} {us : List Int} (hs : Sl w A n (ivs us)) (hn : n ≤ 140737488355328) (u : Int) :
    Calls Try.prog 83 #[.slice A n c, .int .i64 u] w fun e w' => ∃ I : Int, e = .returned (.int .i64 I) ∧ Hid (decide (0 ≤ I) = hasU us u) ∧ w = w' := by
  have HS := Lib.hid hs
  have HL : Hid (us.length = n) := by show _ = _; simpa using hs.len
  clear hs
  go_enter Try.func83, Try.ntmps83
  go_wp2
  go_loop [8] (fun iv => ∃ k : Nat, iv = .int .i64 (k : Int) ∧ k ≤ n ∧ Hid (∀ j (hj : j < us.length), j < k → us[j] ≠ u)) (fun iv => n - (intOf iv).toNat)
  case atStart => exact ⟨0, rfl, Nat.zero_le _, fun j hj h => absurd h (by omega)⟩
  case round =>
    obtain ⟨k, rfl, hk, HK⟩ := hrel
    by_cases hlt : k < n
    · have hlt' : (k : Int) < (n : Int) := by omega
      have hkl : k < us.length := by rw [HL.out]; exact hlt
      obtain ⟨ad, rfl, hc⟩ := HS.out.int_at hlt hkl
      by_cases hx : us[k] = u
      · have HE : Hid (decide ((0 : Int) ≤ (k : Int)) = hasU us u) := by show _ = _; rw [has_hit hkl hx]; exact decide_eq_true (by omega)
        rw [hx] at hc
        clear hx
        go_wp2
        go_ret
        exact ⟨k, rfl, HE.out, rfl⟩
      · have hx2 : (u == us[k]) = false := beq_eq_false_iff_ne.2 (fun e => hx e.symm)
        have HR : Hid (∀ j (hj : j < us.length), j < k + 1 → us[j] ≠ u) := fun j hj h => by
          rcases Nat.lt_or_ge j k with h1 | h1
          · exact HK.out j hj h1
          · obtain rfl : j = k := by omega
            exact hx
        clear hx
        generalize us[k] = y at hc hx2
        go_wp2
        go_round
        case rel => exact ⟨k + 1, by go_num, by omega, HR⟩
        case measure => simp [intOf]; omega
    · obtain rfl : k = n := by omega
      have HE : Hid (decide ((0 : Int) ≤ -1) = hasU us u) := by show _ = _; rw [has_none fun j hj => HK.out j hj (by rw [← HL.out]; exact hj)]; rfl
      go_wp2
      go_ret
      exact ⟨-1, rfl, HE.out, rfl⟩
theorem Contains_any {w : World} {A : Option Addr} {n c : Nat} {us : List Int} (hs : Sl w A n (ivs us)) (hn : n ≤ 140737488355328) (u : Int) :
    Calls Try.prog 61 #[.slice A n c, .int .i64 u] w fun e w' => e = .returned (.bool (hasU us u)) ∧ w = w' := by
  have hI := Index_any (c := c) hs hn u
  clear hs
  go_enter Try.func61, Try.ntmps61
  go_wp2_with (go_at_call 83; with_reducible refine hI.mono ?_; rintro e w2 ⟨I, rfl, HI, rfl⟩)
  go_ret
  exact ⟨by rw [← HI.out]; rfl, rfl⟩
set_option maxRecDepth 100000 in
theorem among_any {w : World} {A : Option Addr} {n c : Nat} {us : List Int} (hs : Sl w A n (ivs us)) (hn : n ≤ 140737488355328) (u : Int) :
    Calls Try.prog 70 #[.slice A n c, .int .i64 u] w fun e w' => e = .returned (.bool (hasU us u)) ∧ w = w' := by
  obtain ⟨q, hq⟩ : ∃ q, hasU us u = q := ⟨_, rfl⟩
  rw [hq]
  have HQ := Lib.hid hq
  have HS := Lib.hid hs
  have HL : Hid (us.length = n) := by show _ = _; simpa using hs.len
  clear hs hq
  go_enter Try.func70, Try.ntmps70
  go_wp2
  go_loop [5] (fun iv => ∃ k : Nat, iv = .int .i64 (k : Int) ∧ k ≤ n ∧ Hid (∀ j (hj : j < us.length), j < k → us[j] ≠ u)) (fun iv => n - (intOf iv).toNat)
  case atStart => exact ⟨0, rfl, Nat.zero_le _, fun j hj h => absurd h (by omega)⟩
  case round =>
    obtain ⟨k, rfl, hk, HK⟩ := hrel
    by_cases hlt : k < n
    · have hlt' : (k : Int) < (n : Int) := by omega
      have hkl : k < us.length := by rw [HL.out]; exact hlt
      obtain ⟨ad, rfl, hc⟩ := HS.out.int_at hlt hkl
      by_cases hx : us[k] = u
      · have HE : Hid (q = true) := by show _ = _; rw [← HQ.out]; exact has_hit hkl hx
        rw [hx] at hc
        clear hx
        go_wp2
        go_ret
        exact ⟨by rw [HE.out]; rfl, rfl⟩
      · have hx2 : (us[k] == u) = false := beq_eq_false_iff_ne.2 hx
        have HR : Hid (∀ j (hj : j < us.length), j < k + 1 → us[j] ≠ u) := fun j hj h => by
          rcases Nat.lt_or_ge j k with h1 | h1
          · exact HK.out j hj h1
          · obtain rfl : j = k := by omega
            exact hx
        clear hx
        generalize us[k] = y at hc hx2
        go_wp2
        go_round
        case rel => exact ⟨k + 1, by go_num, by omega, HR⟩
        case measure => simp [intOf]; omega
    · obtain rfl : k = n := by omega
      have HE : Hid (q = false) := by show _ = _; rw [← HQ.out]; exact has_none fun j hj => HK.out j hj (by rw [← HL.out]; exact hj)
      go_wp2
      go_ret
      exact ⟨by rw [HE.out]; rfl, rfl⟩

/-! ### Find -/
theorem Find1_any {w : World} (m : Mg) (Ab : Option Addr) (cb : Nat) (u : Int) (p : Addr) (hp : w.cell? p = some (.int .i64 u)) :
    Calls Try.prog 69 #[.agg #[.int .i64 m.uid, .int .i64 m.flags, .int .i64 m.date, .slice Ab m.body.length cb], .pointer (some p)] w fun e w' => e = .returned (.bool (m.uid == u)) ∧ Only [] w w' := by
  have hlt := block_lt_of_cell hp
  obtain ⟨x, f, d, y⟩ := m
  simp only
  generalize y.length = z
  go_enter Try.func69, Try.ntmps69
  go_wp2
  go_ret
  exact ⟨rfl, (Only.refl _ _).alloc _⟩
theorem enters_Find1 : ∀ args w, (callFunc 69 args).run Try.prog w = .ok (.enter 69 args) w := Go.Proofs.enters_of Try.func69 (by kernel_rfl) rfl
set_option maxRecDepth 100000 in
theorem IndexFuncM_any {S : Nat → Prop} {w : World} {A : Option Addr} {n c : Nat} {l : List Mg} (h : Ms S w A n l) (hn : n ≤ 140737488355328) (u : Int) (p : Addr) (hp : w.cell? p = some (.int .i64 u)) :
    Calls Try.prog 68 #[.slice A n c, .func (.func 69) #[] #[.pointer (some p)]] w fun e w' => e = .returned (.int .i64 (findI l u)) ∧ Only [] w w' := by
  have eg := enters_Find1
  have HS := Lib.hid h
  have HL := Lib.hid h.len
  have HP := Lib.hid hp
  obtain ⟨q, hq⟩ : ∃ q, findI l u = q := ⟨_, rfl⟩
  rw [hq]
  have HQ := Lib.hid hq
  clear h hp hq
  go_enter Try.func68, Try.ntmps68
  go_wp2
  go_loopw [8] (fun iv wr => Only [] w wr ∧ ∃ k : Nat, iv = .int .i64 (k : Int) ∧ k ≤ n ∧ Hid (∀ j (hj : j < l.length), j < k → l[j].uid ≠ u)) (fun iv _ => n - (intOf iv).toNat)
  case atStart => exact ⟨Only.refl _ _, 0, rfl, Nat.zero_le _, fun j hj h => absurd h (by omega)⟩
  case round =>
    obtain ⟨hO, k, rfl, hk, HK⟩ := hrel
    by_cases hlt : k < n
    · have hlt' : (k : Int) < (n : Int) := by omega
      have hkl : k < l.length := by rw [HL.out]; exact hlt
      obtain ⟨ad, Ab, cb, rfl, _, m0, m1, m2, m3, _, _⟩ := (HS.out.keep hO).at_ hlt hkl
      have hc := Find1_any (w := wr) l[k] Ab cb u p (hO.cellSome HP.out (by simp))
      by_cases hx : l[k].uid = u
      · have HE : Hid (q = (k : Int)) := by show _ = _; rw [← HQ.out]; exact findI_hit hkl (fun j hj => HK.out j (by omega) hj) hx
        have hx1 : (l[k].uid == u) = true := by rw [beq_iff_eq]; exact hx
        rw [hx1] at hc
        clear hx hx1
        generalize l[k] = m at m0 m1 m2 m3 hc
        obtain ⟨x, f, d, y⟩ := m
        simp only at m0 m1 m2 m3 hc
        generalize y.length = z at m3 hc
        go_wp2_with (go_at_fn 69; with_reducible refine hc.mono ?_; rintro e w2 ⟨rfl, O2⟩)
        go_ret
        exact ⟨by rw [HE.out]; rfl, hO.then O2⟩
      · have hx1 : (l[k].uid == u) = false := beq_eq_false_iff_ne.2 hx
        rw [hx1] at hc
        have HR : Hid (∀ j (hj : j < l.length), j < k + 1 → l[j].uid ≠ u) := fun j hj h => by
          rcases Nat.lt_or_ge j k with h1 | h1
          · exact HK.out j hj h1
          · obtain rfl : j = k := by omega
            exact hx
        clear hx hx1
        generalize l[k] = m at m0 m1 m2 m3 hc
        obtain ⟨x, f, d, y⟩ := m
        simp only at m0 m1 m2 m3 hc
        generalize y.length = z at m3 hc
        go_wp2_with (go_at_fn 69; with_reducible refine hc.mono ?_; rintro e w2 ⟨rfl, O2⟩)
        go_roundw
        case rel => exact ⟨hO.then O2, k + 1, by go_num, by omega, HR⟩
        case measure => simp [intOf]; omega
    · obtain rfl : k = n := by omega
      have HE : Hid (q = -1) := by
        show _ = _
        rw [← HQ.out]
        exact findI_none fun m hm => by
          obtain ⟨j, hj, rfl⟩ := List.mem_iff_getElem.1 hm
          exact HK.out j hj (by rw [← HL.out]; exact hj)
      go_wp2
      go_ret
      exact ⟨by rw [HE.out]; rfl, hO⟩
set_option maxRecDepth 100000 in
theorem Find_any {S : Nat → Prop} {w : World} (b : Bx) {A : Option Addr} {c : Nat} (h : Ms S w A b.l.length b.l) (hn : b.l.length ≤ 140737488355328) (u : Int) :
    Calls Try.prog 33 #[bxv b A c, .int .i64 u] w fun e w' => e = .returned (.int .i64 (findI b.l u)) ∧ Only [] w w' := by
  obtain ⟨s, v, x, l⟩ := b
  obtain ⟨n, hl⟩ : ∃ n, l.length = n := ⟨_, rfl⟩
  simp only at h hn
  rw [bxv_eq hl]
  rw [hl] at h hn
  have hO : Only [] w ((w.alloc (.cells #[.string (St s), .int .i64 v, .int .i64 x, .slice A n c] 26)).alloc (.cells #[.int .i64 u] 3)) := ((Only.refl _ _).alloc _).alloc _
  have b2 := Bk.new (w.alloc (.cells #[.string (St s), .int .i64 v, .int .i64 x, .slice A n c] 26)) 3 #[.int .i64 u]
  have c2 := b2.cell 0
  rw [World.size_alloc] at c2
  have HI := Lib.hid (IndexFuncM_any (c := c) (h.keep hO) hn u ⟨w.heap.size + 1, 0, none⟩ c2)
  simp only
  clear h hl b2 c2
  generalize St s = t at *
  generalize findI l u = q at *
  go_enter Try.func33, Try.ntmps33
  go_wp2_with (go_at_call 68; with_reducible refine HI.out.mono ?_; rintro e w2 ⟨rfl, O2⟩)
  go_ret
  exact ⟨rfl, hO.then O2⟩
set_option maxRecDepth 100000 in
theorem refFind_any {S : Nat → Prop} {w : World} (b : Bx) {A : Option Addr} {c : Nat} (h : Ms S w A b.l.length b.l) (hn : b.l.length ≤ 140737488355328) (u : Int) :
    Calls Try.prog 39 #[bxv b A c, .int .i64 u] w fun e w' => e = .returned (.int .i64 (findI b.l u)) ∧ Only [] w w' := by
  obtain ⟨s, v, x, l⟩ := b
  obtain ⟨n, hl⟩ : ∃ n, l.length = n := ⟨_, rfl⟩
  simp only at h hn
  rw [bxv_eq hl]
  rw [hl] at h hn
  simp only
  obtain ⟨q, hq⟩ : ∃ q, findI l u = q := ⟨_, rfl⟩
  rw [hq]
  have HQ := Lib.hid hq
  have hO0 : Only [] w (w.alloc (.cells #[.string (St s), .int .i64 v, .int .i64 x, .slice A n c] 26)) := (Only.refl _ _).alloc _
  have HS := Lib.hid (h.keep hO0)
  have HL := Lib.hid hl
  have B0 := Lib.hid (Bk.new w 26 #[.string (St s), .int .i64 v, .int .i64 x, .slice A n c])
  clear h hl hq
  generalize St s = t at *
  go_enter Try.func39, Try.ntmps39
  go_wp2
  generalize w.alloc (.cells #[.string t, .int .i64 v, .int .i64 x, .slice A n c] 26) = w2 at *
  generalize w.heap.size = g at B0 ⊢
  obtain ⟨c0, c1, c2, c3⟩ := bk_four B0.out
  clear c0 c1 c2
  go_loop [5] (fun iv => ∃ k : Nat, iv = .int .i64 (k : Int) ∧ k ≤ n ∧ Hid (∀ j (hj : j < l.length), j < k → l[j].uid ≠ u)) (fun iv => n - (intOf iv).toNat)
  case atStart => exact ⟨0, rfl, Nat.zero_le _, fun j hj h => absurd h (by omega)⟩
  case round =>
    obtain ⟨k, rfl, hk, HK⟩ := hrel
    by_cases hlt : k < n
    · have hlt' : (k : Int) < (n : Int) := by omega
      have hkl : k < l.length := by rw [HL.out]; exact hlt
      obtain ⟨ad, Ab, cb, rfl, _, m0, _⟩ := HS.out.at_ hlt hkl
      by_cases hx : l[k].uid = u
      · have HE : Hid (q = (k : Int)) := by show _ = _; rw [← HQ.out]; exact findI_hit hkl (fun j hj => HK.out j (by omega) hj) hx
        rw [hx] at m0
        clear hx
        go_wp2
        go_ret
        exact ⟨by rw [HE.out]; rfl, hO0⟩
      · have hx2 : (l[k].uid == u) = false := beq_eq_false_iff_ne.2 hx
        have HR : Hid (∀ j (hj : j < l.length), j < k + 1 → l[j].uid ≠ u) := fun j hj h => by
          rcases Nat.lt_or_ge j k with h1 | h1
          · exact HK.out j hj h1
          · obtain rfl : j = k := by omega
            exact hx
        clear hx
        generalize l[k].uid = y at m0 hx2
        go_wp2
        go_round
        case rel => exact ⟨k + 1, by go_num, by omega, HR⟩
        case measure => simp [intOf]; omega
    · obtain rfl : k = n := by omega
      have HE : Hid (q = -1) := by
        show _ = _
        rw [← HQ.out]
        exact findI_none fun m hm => by
          obtain ⟨j, hj, rfl⟩ := List.mem_iff_getElem.1 hm
          exact HK.out j hj (by rw [← HL.out]; exact hj)
      go_wp2
      go_ret
      exact ⟨by rw [HE.out]; rfl, hO0⟩
end Go.Proofs.Ythaodlegpjedoaa
