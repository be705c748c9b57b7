/-
  The reference's Add.
-/
import Derived.Test.YthaodlegpjedoaaVRefAddI
import Derived.Test.YthaodlegpjedoaaVLeaf
import Derived.Test.YthaodlegpjedoaaVAdd
namespace Go.Proofs.Ythaodlegpjedoaa
open Go.RowKit Go.Instr

set_option maxRecDepth 100000 in
set_option maxHeartbeats 8000000 in
theorem refAdd_any {S : Nat → Prop} {w : World} (b : Bx) {A : Option Addr} {c : Nat} (h : Ms S w A b.l.length b.l) (hn : b.l.length ≤ 1000000) (hx : 0 ≤ b.next) (hS : ∀ x, w.heap.size ≤ x → S x) (f d : Int)
    (P : Option Addr) (m cp : Nat) (y : List UInt8) (hp : Sl w P m (bvs y)) (hm : m ≤ 140737488351232) :
    Calls Try.prog 35 #[bxv b A c, .int .i64 f, .int .i64 d, .slice P m cp] w (Added S w (addB b f d y) (addU b f d y.length) (addE b f d y.length)) := by
  have hyl : y.length = m := by simpa using hp.len
  rw [hyl]
  obtain ⟨s, v, x, l⟩ := b
  obtain ⟨n, hl⟩ : ∃ n, l.length = n := ⟨_, rfl⟩
  simp only at h hn hx
  rw [bxv_eq hl]
  rw [hl] at h hn
  obtain ⟨q, hq⟩ : ∃ q, addE ⟨s, v, x, l⟩ f d m = q := ⟨_, rfl⟩
  rw [hq]
  have HF : Hid (∀ z : Int, z = q → z ≠ 0 → ∀ w', Only [] w w' → Added S w (addB ⟨s, v, x, l⟩ f d y) (addU ⟨s, v, x, l⟩ f d m) q (.returned (.tuple #[bxv ⟨s, v, x, l⟩ A c, .int .i64 0, .int .i64 z])) w') := by
    intro z hz h0 w' o
    subst hz
    have e1 : addB ⟨s, v, x, l⟩ f d y = ⟨s, v, x, l⟩ := by unfold addB; rw [hyl, hq, if_neg h0]
    have e2 : addU ⟨s, v, x, l⟩ f d m = 0 := by unfold addU; rw [hq, if_neg h0]
    rw [e1, e2]
    exact ⟨A, c, rfl, by show Ms S w' A l.length l; rw [hl]; exact h.keep o, o⟩
  have hO1 : Only [] w ((w.alloc (.cells #[.string (St s), .int .i64 v, .int .i64 x, .slice A n c] 26)).alloc (.cells #[.string ⟨#[]⟩, .int .i64 0, .int .i64 0, .slice none 0 0] 26)) := ((Only.refl _ _).alloc _).alloc _
  have b1 := (Bk.new w 26 #[.string (St s), .int .i64 v, .int .i64 x, .slice A n c]).alloc (.cells #[.string ⟨#[]⟩, .int .i64 0, .int .i64 0, .slice none 0 0] 26)
  have b2 := Bk.new (w.alloc (.cells #[.string (St s), .int .i64 v, .int .i64 x, .slice A n c] 26)) 26 #[.string ⟨#[]⟩, .int .i64 0, .int .i64 0, .slice none 0 0]
  rw [World.size_alloc] at b2
  obtain ⟨i0, hi, hz0, hz1, hz2⟩ := info_parts infoByte
  obtain ⟨bf, hbf⟩ : ∃ r, inR f 0 31 = r := ⟨_, rfl⟩
  obtain ⟨bd, hbd⟩ : ∃ r, inR d 0 1073741824 = r := ⟨_, rfl⟩
  have HIN1 := Lib.hid (fun (W : World) => by
    have hh := in_any f 0 31 W
    rw [hbf] at hh
    exact hh.mono fun e w' (he : e = .returned (.bool bf) ∧ W = w') => (show e = .returned (.bool bf) ∧ Only [] W w' from ⟨he.1, he.2 ▸ Only.refl [] W⟩))
  have HIN2 := Lib.hid (fun (W : World) => by
    have hh := in_any d 0 1073741824 W
    rw [hbd] at hh
    exact hh.mono fun e w' (he : e = .returned (.bool bd) ∧ W = w') => (show e = .returned (.bool bd) ∧ Only [] W w' from ⟨he.1, he.2 ▸ Only.refl [] W⟩))
  have HQQ : Hid ((if (bf && bd) = false then (1 : Int) else if 1200 < m then 5 else if 24 ≤ n then 6 else if 1048576 ≤ x then 10 else 0) = q) := by
    show _ = _
    rw [← hq]
    unfold addE markOk
    rw [hbf, hbd]
    simp only
    rw [hl]
  have HB1 := Lib.hid b1
  have HB2 := Lib.hid b2
  have HM := Lib.hid h
  have HS := Lib.hid hS
  have HP := Lib.hid hp
  have HO := Lib.hid hO1
  have HL := Lib.hid hl
  have HYL := Lib.hid hyl
  have HQ := Lib.hid hq
  obtain ⟨t, ht⟩ : ∃ t, St s = t := ⟨_, rfl⟩
  have HT := Lib.hid ht
  rw [ht] at HB1 HB2 HO ⊢
  obtain ⟨k0, k1, k2, k3⟩ := bk_four HB1.out
  obtain ⟨j0, j1, j2, j3⟩ := bk_four HB2.out
  have f0 := HB2.out.free 0
  have f1 := HB2.out.free 1
  have f2 := HB2.out.free 2
  have f3 := HB2.out.free 3
  have hlt := HB2.out.lt
  clear h hS hp hO1 b1 b2 hl hyl ht hq hbf hbd
  go_enter Try.func35, Try.ntmps35
  cases bf
  ·
    go_wp2_with (first
      | (go_at_call 34; with_reducible refine (HIN1.out _).mono ?_; rintro e w2 ⟨rfl, O2⟩; have OQ := HO.out.then O2; have B1q := Lib.hid (HB1.out.only O2 (by simp)); have B2q := Lib.hid (HB2.out.only O2 (by simp)); clear k0 k1 k2 k3 j0 j1 j2 j3 f0 f1 f2 f3 hlt; obtain ⟨k0, k1, k2, k3⟩ := bk_four B1q.out; obtain ⟨j0, j1, j2, j3⟩ := bk_four B2q.out; have f0 := B2q.out.free 0; have f1 := B2q.out.free 1; have f2 := B2q.out.free 2; have f3 := B2q.out.free 3; have hlt := B2q.out.lt)
      | (go_at_call 34; with_reducible refine (HIN2.out _).mono ?_; rintro e w3 ⟨rfl, O3⟩; replace OQ := OQ.then O3; replace B1q := Lib.hid (B1q.out.only O3 (by simp)); replace B2q := Lib.hid (B2q.out.only O3 (by simp)); clear k0 k1 k2 k3 j0 j1 j2 j3 f0 f1 f2 f3 hlt; obtain ⟨k0, k1, k2, k3⟩ := bk_four B1q.out; obtain ⟨j0, j1, j2, j3⟩ := bk_four B2q.out; have f0 := B2q.out.free 0; have f1 := B2q.out.free 1; have f2 := B2q.out.free 2; have f3 := B2q.out.free 3; have hlt := B2q.out.lt))
    refine box_ret2 (s := 8) (u := 9) (v := 10) ?_ (w.heap.size + 1) ⟨s, v, x, l⟩ A c (.int .i64 0) (.int .i64 1) ?_ ?_ ?_ ?_ ?_
    · kernel_rfl
    · rfl
    · rfl
    · rfl
    · rw [bxc_eq HL.out, HT.out]
      exact bk_store B2q.out _ _ _ _
    · exact HF.out 1 (by rw [← HQQ.out]; rfl) (by decide) _ (only_store OQ (.inr (Nat.le_succ _)) _ _ _ _)
  cases bd
  ·
    go_wp2_with (first
      | (go_at_call 34; with_reducible refine (HIN1.out _).mono ?_; rintro e w2 ⟨rfl, O2⟩; have OQ := HO.out.then O2; have B1q := Lib.hid (HB1.out.only O2 (by simp)); have B2q := Lib.hid (HB2.out.only O2 (by simp)); clear k0 k1 k2 k3 j0 j1 j2 j3 f0 f1 f2 f3 hlt; obtain ⟨k0, k1, k2, k3⟩ := bk_four B1q.out; obtain ⟨j0, j1, j2, j3⟩ := bk_four B2q.out; have f0 := B2q.out.free 0; have f1 := B2q.out.free 1; have f2 := B2q.out.free 2; have f3 := B2q.out.free 3; have hlt := B2q.out.lt)
      | (go_at_call 34; with_reducible refine (HIN2.out _).mono ?_; rintro e w3 ⟨rfl, O3⟩; replace OQ := OQ.then O3; replace B1q := Lib.hid (B1q.out.only O3 (by simp)); replace B2q := Lib.hid (B2q.out.only O3 (by simp)); clear k0 k1 k2 k3 j0 j1 j2 j3 f0 f1 f2 f3 hlt; obtain ⟨k0, k1, k2, k3⟩ := bk_four B1q.out; obtain ⟨j0, j1, j2, j3⟩ := bk_four B2q.out; have f0 := B2q.out.free 0; have f1 := B2q.out.free 1; have f2 := B2q.out.free 2; have f3 := B2q.out.free 3; have hlt := B2q.out.lt))
    refine box_ret2 (s := 8) (u := 9) (v := 10) ?_ (w.heap.size + 1) ⟨s, v, x, l⟩ A c (.int .i64 0) (.int .i64 1) ?_ ?_ ?_ ?_ ?_
    · kernel_rfl
    · rfl
    · rfl
    · rfl
    · rw [bxc_eq HL.out, HT.out]
      exact bk_store B2q.out _ _ _ _
    · exact HF.out 1 (by rw [← HQQ.out]; rfl) (by decide) _ (only_store OQ (.inr (Nat.le_succ _)) _ _ _ _)
  by_cases h12 : 1200 < m
  · have h12' : (1200 : Int) < (m : Int) := by omega
    have HQ5 : Hid (q = 5) := by show _ = _; rw [← HQQ.out]; simp [h12]
    go_wp2_with (first
      | (go_at_call 34; with_reducible refine (HIN1.out _).mono ?_; rintro e w2 ⟨rfl, O2⟩; have OQ := HO.out.then O2; have B1q := Lib.hid (HB1.out.only O2 (by simp)); have B2q := Lib.hid (HB2.out.only O2 (by simp)); clear k0 k1 k2 k3 j0 j1 j2 j3 f0 f1 f2 f3 hlt; obtain ⟨k0, k1, k2, k3⟩ := bk_four B1q.out; obtain ⟨j0, j1, j2, j3⟩ := bk_four B2q.out; have f0 := B2q.out.free 0; have f1 := B2q.out.free 1; have f2 := B2q.out.free 2; have f3 := B2q.out.free 3; have hlt := B2q.out.lt)
      | (go_at_call 34; with_reducible refine (HIN2.out _).mono ?_; rintro e w3 ⟨rfl, O3⟩; replace OQ := OQ.then O3; replace B1q := Lib.hid (B1q.out.only O3 (by simp)); replace B2q := Lib.hid (B2q.out.only O3 (by simp)); clear k0 k1 k2 k3 j0 j1 j2 j3 f0 f1 f2 f3 hlt; obtain ⟨k0, k1, k2, k3⟩ := bk_four B1q.out; obtain ⟨j0, j1, j2, j3⟩ := bk_four B2q.out; have f0 := B2q.out.free 0; have f1 := B2q.out.free 1; have f2 := B2q.out.free 2; have f3 := B2q.out.free 3; have hlt := B2q.out.lt))
    refine box_ret2 (s := 8) (u := 9) (v := 10) ?_ (w.heap.size + 1) ⟨s, v, x, l⟩ A c (.int .i64 0) (.int .i64 5) ?_ ?_ ?_ ?_ ?_
    · kernel_rfl
    · rfl
    · rfl
    · rfl
    · rw [bxc_eq HL.out, HT.out]
      exact bk_store B2q.out _ _ _ _
    · exact HF.out 5 HQ5.out.symm (by decide) _ (only_store OQ (.inr (Nat.le_succ _)) _ _ _ _)
  have h12' : ¬ (1200 : Int) < (m : Int) := by omega
  by_cases h24 : 24 ≤ n
  · have h24' : (24 : Int) ≤ (n : Int) := by omega
    have HQ6 : Hid (q = 6) := by show _ = _; rw [← HQQ.out]; simp [h12, h24]
    go_wp2_with (first
      | (go_at_call 34; with_reducible refine (HIN1.out _).mono ?_; rintro e w2 ⟨rfl, O2⟩; have OQ := HO.out.then O2; have B1q := Lib.hid (HB1.out.only O2 (by simp)); have B2q := Lib.hid (HB2.out.only O2 (by simp)); clear k0 k1 k2 k3 j0 j1 j2 j3 f0 f1 f2 f3 hlt; obtain ⟨k0, k1, k2, k3⟩ := bk_four B1q.out; obtain ⟨j0, j1, j2, j3⟩ := bk_four B2q.out; have f0 := B2q.out.free 0; have f1 := B2q.out.free 1; have f2 := B2q.out.free 2; have f3 := B2q.out.free 3; have hlt := B2q.out.lt)
      | (go_at_call 34; with_reducible refine (HIN2.out _).mono ?_; rintro e w3 ⟨rfl, O3⟩; replace OQ := OQ.then O3; replace B1q := Lib.hid (B1q.out.only O3 (by simp)); replace B2q := Lib.hid (B2q.out.only O3 (by simp)); clear k0 k1 k2 k3 j0 j1 j2 j3 f0 f1 f2 f3 hlt; obtain ⟨k0, k1, k2, k3⟩ := bk_four B1q.out; obtain ⟨j0, j1, j2, j3⟩ := bk_four B2q.out; have f0 := B2q.out.free 0; have f1 := B2q.out.free 1; have f2 := B2q.out.free 2; have f3 := B2q.out.free 3; have hlt := B2q.out.lt))
    refine box_ret2 (s := 8) (u := 9) (v := 10) ?_ (w.heap.size + 1) ⟨s, v, x, l⟩ A c (.int .i64 0) (.int .i64 6) ?_ ?_ ?_ ?_ ?_
    · kernel_rfl
    · rfl
    · rfl
    · rfl
    · rw [bxc_eq HL.out, HT.out]
      exact bk_store B2q.out _ _ _ _
    · exact HF.out 6 HQ6.out.symm (by decide) _ (only_store OQ (.inr (Nat.le_succ _)) _ _ _ _)
  have h24' : ¬ (24 : Int) ≤ (n : Int) := by omega
  by_cases h10 : 1048576 ≤ x
  · have HQ10 : Hid (q = 10) := by show _ = _; rw [← HQQ.out]; simp [h12, h24, h10]
    go_wp2_with (first
      | (go_at_call 34; with_reducible refine (HIN1.out _).mono ?_; rintro e w2 ⟨rfl, O2⟩; have OQ := HO.out.then O2; have B1q := Lib.hid (HB1.out.only O2 (by simp)); have B2q := Lib.hid (HB2.out.only O2 (by simp)); clear k0 k1 k2 k3 j0 j1 j2 j3 f0 f1 f2 f3 hlt; obtain ⟨k0, k1, k2, k3⟩ := bk_four B1q.out; obtain ⟨j0, j1, j2, j3⟩ := bk_four B2q.out; have f0 := B2q.out.free 0; have f1 := B2q.out.free 1; have f2 := B2q.out.free 2; have f3 := B2q.out.free 3; have hlt := B2q.out.lt)
      | (go_at_call 34; with_reducible refine (HIN2.out _).mono ?_; rintro e w3 ⟨rfl, O3⟩; replace OQ := OQ.then O3; replace B1q := Lib.hid (B1q.out.only O3 (by simp)); replace B2q := Lib.hid (B2q.out.only O3 (by simp)); clear k0 k1 k2 k3 j0 j1 j2 j3 f0 f1 f2 f3 hlt; obtain ⟨k0, k1, k2, k3⟩ := bk_four B1q.out; obtain ⟨j0, j1, j2, j3⟩ := bk_four B2q.out; have f0 := B2q.out.free 0; have f1 := B2q.out.free 1; have f2 := B2q.out.free 2; have f3 := B2q.out.free 3; have hlt := B2q.out.lt))
    refine box_ret2 (s := 8) (u := 9) (v := 10) ?_ (w.heap.size + 1) ⟨s, v, x, l⟩ A c (.int .i64 0) (.int .i64 10) ?_ ?_ ?_ ?_ ?_
    · kernel_rfl
    · rfl
    · rfl
    · rfl
    · rw [bxc_eq HL.out, HT.out]
      exact bk_store B2q.out _ _ _ _
    · exact HF.out 10 HQ10.out.symm (by decide) _ (only_store OQ (.inr (Nat.le_succ _)) _ _ _ _)
  have HQ0 : Hid (q = 0) := by show _ = _; rw [← HQQ.out]; simp [h12, h24, h10]
  go_wp2_with (first
      | (go_at_call 34; with_reducible refine (HIN1.out _).mono ?_; rintro e w2 ⟨rfl, O2⟩; have OQ := HO.out.then O2; have B1q := Lib.hid (HB1.out.only O2 (by simp)); have B2q := Lib.hid (HB2.out.only O2 (by simp)); clear k0 k1 k2 k3 j0 j1 j2 j3 f0 f1 f2 f3 hlt; obtain ⟨k0, k1, k2, k3⟩ := bk_four B1q.out; obtain ⟨j0, j1, j2, j3⟩ := bk_four B2q.out; have f0 := B2q.out.free 0; have f1 := B2q.out.free 1; have f2 := B2q.out.free 2; have f3 := B2q.out.free 3; have hlt := B2q.out.lt)
      | (go_at_call 34; with_reducible refine (HIN2.out _).mono ?_; rintro e w3 ⟨rfl, O3⟩; replace OQ := OQ.then O3; replace B1q := Lib.hid (B1q.out.only O3 (by simp)); replace B2q := Lib.hid (B2q.out.only O3 (by simp)); clear k0 k1 k2 k3 j0 j1 j2 j3 f0 f1 f2 f3 hlt; obtain ⟨k0, k1, k2, k3⟩ := bk_four B1q.out; obtain ⟨j0, j1, j2, j3⟩ := bk_four B2q.out; have f0 := B2q.out.free 0; have f1 := B2q.out.free 1; have f2 := B2q.out.free 2; have f3 := B2q.out.free 3; have hlt := B2q.out.lt))
  have HE1 : Hid (addB ⟨s, v, x, l⟩ f d y = ⟨s, v, x + 1, l ++ [⟨x, f, d, y⟩]⟩) := by show _ = _; unfold addB; rw [HYL.out, HQ.out, HQ0.out, if_pos rfl]
  have HE2 : Hid (addU ⟨s, v, x, l⟩ f d m = x) := by show _ = _; unfold addU; rw [HQ.out, HQ0.out, if_pos rfl]
  have HWX : Hid (IntKind.i64.wrap x = x) := by show _ = _; exact IntWalk.i64_in _ (by omega)
  have hz3 := OQ.size
  have HSN : Hid (∀ y, w3.heap.size ≤ y → (S y ∧ y ≠ w.heap.size ∧ y ≠ w.heap.size + 1)) := fun y hy => ⟨HS.out y (by omega), by omega, by omega⟩
  have HPL : Hid (w.heap.size < w3.heap.size) := by show _ < _; omega
  have HSP : Hid (∀ y, (S y ∧ y ≠ w.heap.size ∧ y ≠ w.heap.size + 1) → y ≠ w.heap.size) := fun y hy => hy.2.1
  have HSRC : Hid (∀ W, Only [w.heap.size] w3 W → ∀ g0, w3.heap.size ≤ g0 → Ms (fun x => (S x ∧ x ≠ w.heap.size ∧ x ≠ w.heap.size + 1) ∧ x ∉ blks (some ⟨g0, 0, none⟩)) W A n l) := fun W o g0 hg => ((HM.out.lt.keep OQ).only o (fun y hy => by have := hy.2; simp; omega)).mono (fun y hy => ⟨⟨hy.1, by omega, by omega⟩, by have := hy.2; simp; omega⟩)
  have HBY : Hid (∀ W, Only [w.heap.size] w3 W → Sl W P m (bvs y)) := fun W o => (HP.out.keep OQ).only' o (fun hp ad e hh => by have := HP.out.lt hp ad e; simp at hh; omega)
  clear k0 k1 k2 k3 j0 j1 j2 j3 f0 f1 f2 f3 hlt O2 O3 HIN1 HIN2 HF
  apply region_inv (AddI w3 (fun y => S y ∧ y ≠ w.heap.size ∧ y ≠ w.heap.size + 1) w.heap.size t v x A n c l f d m y) (by kernel_rfl) (by kernel_rfl) (fun vs => AddI.start B1q.out vs)
  intro vs
  apply inv_op
  case hw => rfl
  case hy =>
    intro L wS hI hL hw
    refine gives_value (u := .slice (some ⟨wS.heap.size, 0, none⟩) 0 0) (w' := wS.alloc (.cells #[] 62)) ?_ (hI.s0 hL HSN.out) trivial
    first | (go_simp; done) | (go_simp; with_reducible rfl)
  case' hk => skip
  try simp only [Act.put, List.setIfInBounds_toArray, List.set_cons_zero, List.set_cons_succ]
  apply inv_val
  case hw => rfl
  case hI => intro L wS hI; exact hI.pure (by decide)
  case hy => intro L wS hI; skip; first | (go_simp; done) | (go_simp; with_reducible rfl)
  case' hk => skip
  try simp only [Act.put, List.setIfInBounds_toArray, List.set_cons_zero, List.set_cons_succ]
  apply inv_load
  case hw => rfl
  case hI => intro L wS hI; exact hI.pure (by decide)
  case hy => intro L wS hI hL; obtain ⟨k0, k1, k2, k3⟩ := bk_four (hI.load hL); first | (go_simp; done) | (go_simp; with_reducible rfl)
  case' hk => skip
  try simp only [Act.put, List.setIfInBounds_toArray, List.set_cons_zero, List.set_cons_succ]
  apply inv_op
  case hw => rfl
  case hy =>
    intro L wS hI hL hw
    have h0 := hw 0 (by kernel_rfl)
    have h2 := hw 2 (by kernel_rfl)
    obtain ⟨g0, e0, hg0, M0⟩ := hI.2.2.2.1 h0 hL
    have hz := hI.1.size
    rw [e0]
    exact gives_append_zero_ms (.tmp 37) (.tmp 39) rfl g0 rfl M0 A n c l rfl (HSRC.out wS hI.1 g0 hg0) (fun y hy => HSN.out y (Nat.le_trans hz hy)) (by omega) fun A' c' w' h1 h2' h3 => ⟨hI.s3 hL ⟨h0, h2⟩ h2' h1 (fun k hk => by
      rcases h3 k hk with rfl | h
      · exact hg0
      · omega), trivial⟩
  case' hk => skip
  try simp only [Act.put, List.setIfInBounds_toArray, List.set_cons_zero, List.set_cons_succ]
  apply inv_val
  case hw => rfl
  case hI => intro L wS hI; exact hI.pure (by decide)
  case hy => intro L wS hI; skip; first | (go_simp; done) | (go_simp; with_reducible rfl)
  case' hk => skip
  try simp only [Act.put, List.setIfInBounds_toArray, List.set_cons_zero, List.set_cons_succ]
  apply inv_val
  case hw => rfl
  case hI => intro L wS hI; exact hI.pure (by decide)
  case hy => intro L wS hI; have q2 := hI.next; first | (go_simp; done) | (go_simp; with_reducible rfl)
  case' hk => skip
  try simp only [Act.put, List.setIfInBounds_toArray, List.set_cons_zero, List.set_cons_succ]
  apply inv_val
  case hw => rfl
  case hI => intro L wS hI; exact hI.pure (by decide)
  case hy => intro L wS hI; skip; first | (go_simp; done) | (go_simp; with_reducible rfl)
  case' hk => skip
  try simp only [Act.put, List.setIfInBounds_toArray, List.set_cons_zero, List.set_cons_succ]
  apply inv_val
  case hw => rfl
  case hI => intro L wS hI; exact hI.pure (by decide)
  case hy => intro L wS hI; skip; first | (go_simp; done) | (go_simp; with_reducible rfl)
  case' hk => skip
  try simp only [Act.put, List.setIfInBounds_toArray, List.set_cons_zero, List.set_cons_succ]
  apply inv_op
  case hw => rfl
  case hy =>
    intro L wS hI hL hw
    refine gives_value (u := .slice (some ⟨wS.heap.size, 0, none⟩) 0 0) (w' := wS.alloc (.cells #[] 5)) ?_ (hI.s8 hL) trivial
    first | (go_simp; done) | (go_simp; with_reducible rfl)
  case' hk => skip
  try simp only [Act.put, List.setIfInBounds_toArray, List.set_cons_zero, List.set_cons_succ]
  apply inv_val
  case hw => rfl
  case hI => intro L wS hI; exact hI.pure (by decide)
  case hy => intro L wS hI; skip; first | (go_simp; done) | (go_simp; with_reducible rfl)
  case' hk => skip
  try simp only [Act.put, List.setIfInBounds_toArray, List.set_cons_zero, List.set_cons_succ]
  apply inv_op
  case hw => rfl
  case hy =>
    intro L wS hI hL hw
    have h8 := hw 8 (by kernel_rfl)
    obtain ⟨g8, e8, hg8, V8⟩ := hI.2.2.2.2.2.1 h8 hL
    have hz := hI.1.size
    rw [e8]
    exact gives_append_zero (.tmp 45) (.tmp 46) 29 rfl 5 i0 (.int .u8 0) 1 Try.underlying29 hi hz0 hz1 hz2 rfl g8 rfl V8 P m cp (bvs y) rfl (HBY.out wS hI.1) (bvs_one y) (by unfold maxLen; omega) (by omega) fun A' c' w' h1 h2 h3 => ⟨hI.s10 hL h8 h2 h1 (fun k hk => by
      rcases h3 k hk with rfl | h
      · exact hg8
      · omega), trivial⟩
  case' hk => skip
  try simp only [Act.put, List.setIfInBounds_toArray, List.set_cons_zero, List.set_cons_succ]
  apply inv_op
  case hw => rfl
  case hy =>
    intro L wS hI hL hw
    obtain ⟨P1, cp1, e10, h11⟩ := hI.s11 hL (hw 10 (by kernel_rfl))
    refine gives_value (u := .agg #[.int .i64 x, .int .i64 f, .int .i64 d, .slice P1 m cp1]) (w' := wS) ?_ h11 trivial
    rw [e10]
    first | (go_simp; done) | (go_simp; with_reducible rfl)
  case' hk => skip
  try simp only [Act.put, List.setIfInBounds_toArray, List.set_cons_zero, List.set_cons_succ]
  apply inv_op
  case hw => rfl
  case hy =>
    intro L wS hI hL hw
    obtain ⟨P1, cp1, e11, h12⟩ := hI.s12 hL (hw 11 (by kernel_rfl)) HPL.out
    refine gives_value (u := .slice (some ⟨wS.heap.size, 0, none⟩) 1 1) (w' := wS.alloc (.cells #[.int .i64 x, .int .i64 f, .int .i64 d, .slice P1 m cp1] 62)) ?_ h12 trivial
    rw [e11]
    first | (go_simp; done) | (go_simp; with_reducible rfl)
  case' hk => skip
  try simp only [Act.put, List.setIfInBounds_toArray, List.set_cons_zero, List.set_cons_succ]
  apply inv_op
  case hw => rfl
  case hy =>
    intro L wS hI hL hw
    have h3 := hw 3 (by kernel_rfl)
    have h12 := hw 12 (by kernel_rfl)
    obtain ⟨A3, c3, e3, M3, hb3⟩ := hI.2.2.2.2.1 h3 hL
    have h10 := hI.2.1.2.2.1 (hI.2.1.2.2.2.1 h12)
    obtain ⟨P1, cp1, e10, V1, hb1, _, h12'⟩ := hI.2.2.2.2.2.2.1 h10 hL
    obtain ⟨k2, e12, B12, _⟩ := h12' h12
    have hz := hI.1.size
    rw [e3, e12]
    exact gives_append_one (.tmp 40) (.tmp 49) rfl A3 n c3 l rfl M3 k2 62 ⟨x, f, d, y⟩ P1 cp1 rfl (by show Bk _ _ _ #[.int .i64 x, .int .i64 f, .int .i64 d, .slice P1 y.length cp1]; rw [HYL.out]; exact B12) (by show Sl _ _ y.length _; rw [HYL.out]; exact V1.sl) (fun _ ad e => by
      subst e
      refine ⟨HSN.out _ (hb1 _ (by simp)), fun hm => ?_⟩
      obtain ⟨cu, q1⟩ := V1.bk (k := ad.block) (by simp)
      obtain ⟨cu2, q2⟩ := M3.bk hm
      exact q1.ne q2 (by decide) rfl) (fun y hy => HSN.out y (Nat.le_trans hz hy)) (by omega) fun A' c' w' h1 h2 h3' => ⟨hI.s13 hL ⟨h3, h12⟩ M3 HSP.out h2 hb3 h1, trivial⟩
  case' hk => skip
  try simp only [Act.put, List.setIfInBounds_toArray, List.set_cons_zero, List.set_cons_succ]
  apply inv_val
  case hw => rfl
  case hI => intro L wS hI; exact hI.pure (by decide)
  case hy => intro L wS hI; skip; first | (go_simp; done) | (go_simp; with_reducible rfl)
  case' hk => skip
  try simp only [Act.put, List.setIfInBounds_toArray, List.set_cons_zero, List.set_cons_succ]
  apply inv_op
  case hw => rfl
  case hy =>
    intro L wS hI hL hw
    have h13 := hw 13 (by kernel_rfl)
    obtain ⟨A', c', e13, hb, hs⟩ := hI.s15 hL h13 HSP.out (u := vs 15)
    obtain ⟨k0, k1, k2, k3⟩ := bk_four hb
    have fz3 := hb.free 3
    have hg := hb.lt
    rw [e13]
    refine gives_skip ?_ hs trivial
    go_simp
  case' hk => skip
  try simp only [Act.put]
  refine inv_end ?_
  intro L w7 hall hI
  obtain ⟨A', c', e13, M7, hb7⟩ := hI.2.2.2.2.2.2.2 (hall 13 (by decide))
  have B7 := hb7 (hall 15 (by decide))
  have O7 := hI.1
  rw [e13]
  clear hb7 hI hall e13 HSRC HBY HSN
  have X7 := B2q.out.only O7 (by simp)
  obtain ⟨k0, k1, k2, k3⟩ := bk_four B7
  have kf2 := B7.free 2
  have kl := B7.lt
  go_wp2_with fail
  obtain ⟨w8, hw8⟩ : ∃ w8, w7.setCell ⟨w.heap.size, 2, none⟩ (.int .i64 (x + 1)) = w8 := ⟨_, rfl⟩
  have B8 : Bk w8 w.heap.size 26 #[.string t, .int .i64 v, .int .i64 (x + 1), .slice A' (n + 1) c'] := by rw [← hw8]; simpa using B7.set 2 (.int .i64 (x + 1))
  have X8 : Bk w8 (w.heap.size + 1) 26 #[.string ⟨#[]⟩, .int .i64 0, .int .i64 0, .slice none 0 0] := by rw [← hw8]; exact X7.far (by simp) _
  have M8 : Mo (fun y => S y ∧ y ≠ w.heap.size ∧ y ≠ w.heap.size + 1) w8 A' (n + 1) c' (l ++ [⟨x, f, d, y⟩]) := by
    rw [← hw8]
    exact M7.only (rs := [w.heap.size]) ((Only.refl _ _).setCell (.inl (by simp)) _) (fun y hy hm => by simp at hm; exact hy.2.1 hm)
  have O8 : Only [] w w8 := by rw [← hw8]; exact (OQ.trans O7 (fun y hy => .inr (by simp at hy; omega))).setCell (.inr (Nat.le_refl _)) _
  rw [hw8]
  clear hw8 k0 k1 k2 k3 kf2 kl B7 X7 M7 O7
  obtain ⟨k0, k1, k2, k3⟩ := bk_four B8
  apply region_inv (St1 w8 (w.heap.size + 1) #[.string ⟨#[]⟩, .int .i64 0, .int .i64 0, .slice none 0 0] #[.string t, .int .i64 v, .int .i64 (x + 1), .slice A' (n + 1) c'] 4) (by kernel_rfl) (by kernel_rfl) (fun vs => St1.start X8 vs)
  intro vs2
  apply inv_val
  case hw => rfl
  case hI => intro L wS hI; exact hI.pure (by decide)
  case hy => intro L wS hI; have q0 := hI.1.cellSome k0 (by simp); have q1 := hI.1.cellSome k1 (by simp); have q2 := hI.1.cellSome k2 (by simp); have q3 := hI.1.cellSome k3 (by simp); first | (go_simp; done) | (go_simp; with_reducible rfl)
  case' hk => skip
  try simp only [Act.put, List.setIfInBounds_toArray, List.set_cons_zero, List.set_cons_succ]
  apply inv_val
  case hw => rfl
  case hI => intro L wS hI; exact hI.pure (by decide)
  case hy => intro L wS hI; skip; first | (go_simp; done) | (go_simp; with_reducible rfl)
  case' hk => skip
  try simp only [Act.put, List.setIfInBounds_toArray, List.set_cons_zero, List.set_cons_succ]
  apply inv_val
  case hw => rfl
  case hI => intro L wS hI; exact hI.pure (by decide)
  case hy => intro L wS hI; have q2 := hI.1.cellSome k2 (by simp); first | (go_simp; done) | (go_simp; with_reducible rfl)
  case' hk => skip
  try simp only [Act.put, List.setIfInBounds_toArray, List.set_cons_zero, List.set_cons_succ]
  apply inv_val (v := .int .i64 x)
  case hw => rfl
  case hI => intro L wS hI; exact hI.pure (by decide)
  case hy =>
    intro L wS hI
    go_simp
    exact HWX.out
  case' hk => skip
  try simp only [Act.put, List.setIfInBounds_toArray, List.set_cons_zero, List.set_cons_succ]
  apply inv_op
  case hw => rfl
  case hy =>
    intro L wS hI hL hw
    have hb : Bk wS (w.heap.size + 1) 26 #[.string ⟨#[]⟩, .int .i64 0, .int .i64 0, .slice none 0 0] := by have := hI.2; rw [hL] at this; simpa using this
    obtain ⟨j0, j1, j2, j3⟩ := bk_four hb
    have fz0 := hb.free 0
    have fz1 := hb.free 1
    have fz2 := hb.free 2
    have fz3 := hb.free 3
    have hg := hb.lt
    refine gives_skip ?_ (hI.store (only_store (Only.refl [w.heap.size + 1] wS) (.inl List.mem_cons_self) (.string t) (.int .i64 v) (.int .i64 (x + 1)) (.slice A' (n + 1) c')) (bk_store hb _ _ _ _)) trivial
    go_simp
  case' hk => skip
  try simp only [Act.put]
  apply inv_val
  case hw => rfl
  case hI => intro L wS hI; exact hI.pure (by decide)
  case hy => intro L wS hI; skip; first | (go_simp; done) | (go_simp; with_reducible rfl)
  case' hk => skip
  try simp only [Act.put, List.setIfInBounds_toArray, List.set_cons_zero, List.set_cons_succ]
  apply inv_val
  case hw => rfl
  case hI => intro L wS hI; exact hI.pure (by decide)
  case hy => intro L wS hI; skip; first | (go_simp; done) | (go_simp; with_reducible rfl)
  case' hk => skip
  try simp only [Act.put, List.setIfInBounds_toArray, List.set_cons_zero, List.set_cons_succ]
  refine inv_end ?_
  intro L2 w9 hall2 hI2
  obtain ⟨O9, B9⟩ := hI2
  rw [if_pos (hall2 4 (by decide))] at B9
  have hl1 : (l ++ [(⟨x, f, d, y⟩ : Mg)]).length = n + 1 := by rw [List.length_append, HL.out]; rfl
  go_wp2_with fail
  refine box_ret2 (s := 8) (u := 9) (v := 10) (by kernel_rfl) (w.heap.size + 1) ⟨s, v, x + 1, l ++ [⟨x, f, d, y⟩]⟩ A' c' (.int .i64 x) (.int .i64 0) rfl rfl rfl ?_ ?_
  · rw [bxc_eq hl1, HT.out]
    exact B9
  · rw [HE1.out, HE2.out, HQ0.out]
    refine ⟨A', c', rfl, ?_, O8.trans O9 (fun y hy => .inr (by simp at hy; omega))⟩
    show Ms S _ A' (l ++ [(⟨x, f, d, y⟩ : Mg)]).length _
    rw [hl1]
    exact (M8.ms.only O9 (fun y hy hm => by simp at hm; exact hy.2.2 hm)).mono (fun y hy => hy.1)
end Go.Proofs.Ythaodlegpjedoaa
