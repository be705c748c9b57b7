/-
  Texts of the seat, laid one behind the other: ZFlags.
-/
import Derived.Test.YtkcnnbglmckmnaaDoorA12
import Derived.Test.YtkcnnbglmckmnaaDoorA2
import Derived.Test.YtkcnnbglmckmnaaDoorA1
namespace Go.Proofs.YtkcnnbglmckmnaaDoor
open Go.RowKit Go.Instr
theorem gr_atoms {w : World} {A : Option Addr} {n c mn mc : Nat} {MA : Option Addr} {ws : List (List UInt8)} {m : Mss} (h : Gr 2 w A n (gx tkl (atomsT ws))) (hl : ws.length = n) (hc : n ≤ c) (hn : n ≤ 1000) (ht : ∀ s ∈ ws, s.length ≤ 140737488355328) (hB : Bt w MA mn mc m.body) (hmn : mn ≤ 4096) (hA : ∀ x ∈ blks MA, x < w.heap.size) (hM : MaxF w) :
    Calls Tryd.prog 19 #[.slice A n c, .agg #[.int .i64 m.uid, .int .i64 m.flags, .int .i64 m.date, .slice MA mn mc]] w fun e w' => e = .returned (.tuple #[.bool (meansK m 1 1 (max m.uid 1) (kz (parseK (prs 16) (atomsT ws)))), .bool (parseK (prs 16) (atomsT ws)).isSome]) ∧ Only [] w w' :=
  meant_any h (by rw [atomsT_len]; exact hl) hc (by omega) (fun t htm => by
    unfold atomsT at htm
    obtain ⟨s, hs, rfl⟩ := List.mem_map.1 htm
    exact ht s hs) hB hmn hA hM
def flW (i : Nat) : List UInt8 := ([[83, 69, 69, 78], [97, 110, 115, 119, 101, 114, 101, 100], [70, 108, 97, 103, 103, 101, 100], [100, 101, 108, 101, 116, 101, 100], [68, 82, 65, 70, 84]] : List (List UInt8)).getD i []
theorem fl_parse : ∀ i, i < 5 → parseK (prs 16) (atomsT [flW i]) = some (andK [flagK ((2 ^ i : Nat) : Int)]) ∧ parseK (prs 16) (atomsT [unW ++ flW i]) = some (andK [notK (flagK ((2 ^ i : Nat) : Int))])
  | 0, _ => ⟨rfl, rfl⟩
  | 1, _ => ⟨rfl, rfl⟩
  | 2, _ => ⟨rfl, rfl⟩
  | 3, _ => ⟨rfl, rfl⟩
  | 4, _ => ⟨rfl, rfl⟩
  | i + 5, h => by omega
theorem fl_means (f : Int) (i : Nat) : meansK ⟨3, f, 0, []⟩ 1 1 3 (andK [flagK ((2 ^ i : Nat) : Int)]) = flagB f ((2 ^ i : Nat) : Int) ∧ meansK ⟨3, f, 0, []⟩ 1 1 3 (andK [notK (flagK ((2 ^ i : Nat) : Int))]) = !flagB f ((2 ^ i : Nat) : Int) := by
  unfold meansK
  rw [match_one, match_one, match_not, match_flag]
  exact ⟨rfl, rfl⟩
theorem fl_bits_all : ((List.range 32).all fun f => (List.range 5).all fun i => decide (flagB (f : Int) ((2 ^ i : Nat) : Int) = (bits .and .i64 ((f : Int) / ((2 ^ i : Nat) : Int)) 1 == 1))) = true := by kernel_rfl
theorem fl_bits {f : Int} (h0 : 0 ≤ f) (h1 : f ≤ 31) {i : Nat} (hi : i < 5) : (bits .and .i64 (f / ((2 ^ i : Nat) : Int)) 1 == 1) = flagB f ((2 ^ i : Nat) : Int) := by
  have h := fl_bits_all
  rw [List.all_eq_true] at h
  have h2 := h f.toNat (List.mem_range.2 (by omega))
  rw [List.all_eq_true] at h2
  have h3 := of_decide_eq_true (h2 i (List.mem_range.2 hi))
  rw [show ((f.toNat : Nat) : Int) = f by omega] at h3
  exact h3.symm
set_option maxRecDepth 100000 in
theorem flags_known {w : World} (hM : MaxF w) (f i : Int) (h : f < 0 ∨ 31 < f ∨ i < 0 ∨ 4 < i) : Calls Tryd.prog 6 #[.int .i64 f, .int .i64 i] w fun e w' => e = .returned (.bool true) ∧ Only [] w w' := by
  have HK := Lib.hid (known_any w hM)
  clear hM
  have ways : f < 0 ∨ (0 ≤ f ∧ 31 < f) ∨ (0 ≤ f ∧ f ≤ 31 ∧ i < 0) ∨ (0 ≤ f ∧ f ≤ 31 ∧ 0 ≤ i ∧ 4 < i) := by omega
  clear h
  rcases ways with h1 | ⟨h1, h2⟩ | ⟨h1, h2, h3⟩ | ⟨h1, h2, h3, h4⟩
  all_goals
    go_enter Tryd.func6, Tryd.ntmps6
    go_wp2_with (go_at_call 14; refine HK.out.mono ?_; rintro e w2 ⟨rfl, O2⟩)
    go_ret
    exact ⟨rfl, O2⟩
set_option maxRecDepth 100000 in
set_option maxHeartbeats 4000000 in
theorem flags_0 {w : World} (hM : MaxF w) (f : Int) (h0 : 0 ≤ f) (h1 : f ≤ 31) : Calls Tryd.prog 6 #[.int .i64 f, .int .i64 0] w fun e w' => e = .returned (.bool true) ∧ Only [] w w' := by
  obtain ⟨B, hB⟩ : ∃ B, flagB f ((2 ^ 0 : Nat) : Int) = B := ⟨_, rfl⟩
  have HM := Lib.hid hM
  have hmt : ∀ (ws : List (List UInt8)) (X : Bool), ws.length = 1 → (∀ s ∈ ws, s.length ≤ 140737488355328) → meansK ⟨3, f, 0, []⟩ 1 1 3 (kz (parseK (prs 16) (atomsT ws))) = X → (parseK (prs 16) (atomsT ws)).isSome = true →
      ∀ w2, MaxF w2 → ∀ wS A c, Only [] w2 wS → Gr 2 wS A 1 (gx tkl (atomsT ws)) → 1 ≤ c → Calls Tryd.prog 19 #[.slice A 1 c, .agg #[.int .i64 3, .int .i64 f, .int .i64 0, .slice none 0 0]] wS fun e w' => e = .returned (.tuple #[.bool X, .bool true]) ∧ Only [] wS w' := by
    intro ws X hl hlen hX hY w2 hM2 wS A c hO hG hc
    have := gr_atoms (m := ⟨3, f, 0, []⟩) (MA := none) (mn := 0) (mc := 0) hG hl hc (by omega) hlen (Bt.none_ _) (by omega) (fun x hx => nomatch hx) (hM2.keep hO)
    rw [hY, show max (3 : Int) 1 = 3 from rfl, hX] at this
    exact this
  have h5 := hmt [[83, 69, 69, 78]] B rfl (by decide) (by rw [show ([[83, 69, 69, 78]] : List (List UInt8)) = [flW 0] from rfl, (fl_parse 0 (by omega)).1]; exact (fl_means f 0).1.trans hB) (by rfl)
  have h6 := hmt [[117, 110, 83, 69, 69, 78]] (!B) rfl (by decide) (by rw [show ([[117, 110, 83, 69, 69, 78]] : List (List UInt8)) = [unW ++ flW 0] from rfl, (fl_parse 0 (by omega)).2]; exact (fl_means f 0).2.trans (by rw [hB])) (by rfl)
  have HM5 := Lib.hid h5
  have HM6 := Lib.hid h6
  have HB := Lib.hid hB
  clear h5 h6 hmt hM hB
  go_enter Tryd.func6, Tryd.ntmps6
  go_upto_region 5 with fail
  have K6 : Bk ((w.alloc (.cells #[.string ⟨#[83, 69, 69, 78]⟩, .string ⟨#[97, 110, 115, 119, 101, 114, 101, 100]⟩, .string ⟨#[70, 108, 97, 103, 103, 101, 100]⟩, .string ⟨#[100, 101, 108, 101, 116, 101, 100]⟩, .string ⟨#[68, 82, 65, 70, 84]⟩] 9)).alloc (.cells #[.int .i64 3, .int .i64 f, .int .i64 0, .slice none 0 0] 37)) (w.heap.size + 1) 37 #[.int .i64 3, .int .i64 f, .int .i64 0, .slice none 0 0] := by
    have := Bk.new (w.alloc (.cells #[.string ⟨#[83, 69, 69, 78]⟩, .string ⟨#[97, 110, 115, 119, 101, 114, 101, 100]⟩, .string ⟨#[70, 108, 97, 103, 103, 101, 100]⟩, .string ⟨#[100, 101, 108, 101, 116, 101, 100]⟩, .string ⟨#[68, 82, 65, 70, 84]⟩] 9)) 37 #[.int .i64 3, .int .i64 f, .int .i64 0, .slice none 0 0]
    rwa [World.size_alloc] at this
  have OW : Only [] w ((w.alloc (.cells #[.string ⟨#[83, 69, 69, 78]⟩, .string ⟨#[97, 110, 115, 119, 101, 114, 101, 100]⟩, .string ⟨#[70, 108, 97, 103, 103, 101, 100]⟩, .string ⟨#[100, 101, 108, 101, 116, 101, 100]⟩, .string ⟨#[68, 82, 65, 70, 84]⟩] 9)).alloc (.cells #[.int .i64 3, .int .i64 f, .int .i64 0, .slice none 0 0] 37)) := ((Only.refl _ _).alloc _).alloc _
  obtain ⟨W, hW⟩ : ∃ W, (w.alloc (.cells #[.string ⟨#[83, 69, 69, 78]⟩, .string ⟨#[97, 110, 115, 119, 101, 114, 101, 100]⟩, .string ⟨#[70, 108, 97, 103, 103, 101, 100]⟩, .string ⟨#[100, 101, 108, 101, 116, 101, 100]⟩, .string ⟨#[68, 82, 65, 70, 84]⟩] 9)).alloc (.cells #[.int .i64 3, .int .i64 f, .int .i64 0, .slice none 0 0] 37) = W := ⟨_, rfl⟩
  rw [hW] at K6 OW ⊢
  clear hW
  obtain ⟨g6, hg6⟩ : ∃ g6, w.heap.size + 1 = g6 := ⟨_, rfl⟩
  rw [hg6] at K6 ⊢
  have HG6 := Lib.hid hg6
  clear hg6
  obtain ⟨m0, m1, m2, m3⟩ := K6.four
  have hlw := K6.lt
  have HMT := Lib.hid (HM5.out W.drew ((HM.out.keep OW).keep ((Only.refl [] W).drew)))
  have HOW := Lib.hid OW
  have HK6 := Lib.hid K6
  clear OW K6
  apply region_only (by kernel_rfl) (by kernel_rfl)
  apply rel_val (hrf := Tk_refl)
  case hw => rfl
  case hy => intro wS hN hF; skip; first | (go_simp; done) | (go_simp; with_reducible rfl)
  case' hk => skip
  try simp only [Act.put, List.setIfInBounds_toArray, List.set_cons_zero, List.set_cons_succ]
  apply rel_fact (φ := fun v W => ∃ A : Addr, v = .slice (some A) 1 1 ∧ Sl W (some A) 1 (tvL [[83, 69, 69, 78]])) (x := 9999) (hs := lasts0 (by kernel_rfl) (fun v W W' h ho => by obtain ⟨A, h1, h2⟩ := h; exact ⟨A, h1, h2.keep ho⟩))
  case hw => rfl
  case hy =>
    intro wS hN hF
    refine gives_value (u := .slice (some ⟨wS.heap.size, 0, none⟩) 1 1) (w' := wS.alloc (.cells #[.string (St [83, 69, 69, 78])] 9)) ?_ ⟨_, rfl, Sl.of_new _ _ _ _⟩ (Tk_only ((Only.refl [] _).alloc _))
    go_simp
  case' hk => intro v1
  try simp only [Act.put, List.setIfInBounds_toArray, List.set_cons_zero, List.set_cons_succ]
  apply rel_fact_call (φ := fun v W => ∃ (A : Option Addr) (c : Nat), v = .slice A 1 c ∧ Gr 2 W A 1 (gx tkl (atomsT [[83, 69, 69, 78]])) ∧ 1 ≤ c) (x := 9999) (hs := lasts0 (by kernel_rfl) (fun v W W' h ho => by obtain ⟨A, c, h1, h2, h3⟩ := h; exact ⟨A, c, h1, h2.keep ho, h3⟩))
  case hw => rfl
  case hc =>
    intro wS hN hF
    obtain ⟨A, rfl, h2⟩ := hF.at_ 0 rfl (by kernel_rfl) (by kernel_rfl)
    refine ⟨20, #[.slice (some A) 1 1], by go_simp, (atoms_any h2 (by omega)).mono ?_⟩
    rintro e w3 ⟨A', c', rfl, hG, _, hO⟩
    exact ⟨_, rfl, ⟨A', c', rfl, hG.reads, hG.cap⟩, Tk_only hO⟩
  case' hk => intro v2
  try simp only [Act.put, List.setIfInBounds_toArray, List.set_cons_zero, List.set_cons_succ]
  apply rel_val (hrf := Tk_refl)
  case hw => rfl
  case hy => intro wS hN hF; have hq0 := (hN.pre (by kernel_rfl)).cellSome m0 (fun hm => nomatch hm); have hq1 := (hN.pre (by kernel_rfl)).cellSome m1 (fun hm => nomatch hm); have hq2 := (hN.pre (by kernel_rfl)).cellSome m2 (fun hm => nomatch hm); have hq3 := (hN.pre (by kernel_rfl)).cellSome m3 (fun hm => nomatch hm); first | (go_simp; done) | (go_simp; with_reducible rfl)
  case' hk => skip
  try simp only [Act.put, List.setIfInBounds_toArray, List.set_cons_zero, List.set_cons_succ]
  apply rel_fact_call (φ := fun v W => v = .tuple #[.bool B, .bool true]) (x := 9999) (hs := lasts0 (by kernel_rfl) (fun v W W' h ho => h))
  case hw => rfl
  case hc =>
    intro wS hN hF
    obtain ⟨A, c, rfl, hG, hc⟩ := hF.at_ 0 rfl (by kernel_rfl) (by kernel_rfl)
    refine ⟨19, #[.slice A 1 c, .agg #[.int .i64 3, .int .i64 f, .int .i64 0, .slice none 0 0]], by go_simp, (HMT.out wS A c (hN.pre (by kernel_rfl)) hG hc).mono ?_⟩
    rintro e w3 ⟨rfl, hO⟩
    exact ⟨_, rfl, rfl, Tk_only hO⟩
  case' hk => intro v4
  try simp only [Act.put, List.setIfInBounds_toArray, List.set_cons_zero, List.set_cons_succ]
  apply rel_val (v := .tuple #[.bool B, .bool true]) (hrf := Tk_refl)
  case hw => rfl
  case hy =>
    intro wS hN hF
    obtain rfl := hF.at_ 0 rfl (by kernel_rfl) (by kernel_rfl)
    go_simp
  case' hk => skip
  try simp only [Act.put, List.setIfInBounds_toArray, List.set_cons_zero, List.set_cons_succ]
  apply rel_val (hrf := Tk_refl)
  case hw => rfl
  case hy => intro wS hN hF; skip; first | (go_simp; done) | (go_simp; with_reducible rfl)
  case' hk => skip
  try simp only [Act.put, List.setIfInBounds_toArray, List.set_cons_zero, List.set_cons_succ]
  apply rel_val (hrf := Tk_refl)
  case hw => rfl
  case hy => intro wS hN hF; skip; first | (go_simp; done) | (go_simp; with_reducible rfl)
  case' hk => skip
  try simp only [Act.put, List.setIfInBounds_toArray, List.set_cons_zero, List.set_cons_succ]
  apply rel_val (hrf := Tk_refl)
  case hw => rfl
  case hy => intro wS hN hF; skip; first | (go_simp; done) | (go_simp; with_reducible rfl)
  case' hk => skip
  try simp only [Act.put, List.setIfInBounds_toArray, List.set_cons_zero, List.set_cons_succ]
  apply rel_val (hrf := Tk_refl)
  case hw => rfl
  case hy => intro wS hN hF; skip; first | (go_simp; done) | (go_simp; with_reducible rfl)
  case' hk => skip
  try simp only [Act.put, List.setIfInBounds_toArray, List.set_cons_zero, List.set_cons_succ]
  refine rel_end ?_
  intro wS hO hF
  clear hF HMT
  have o5 : Only [] W wS := ((Only.refl [] W).drew).then hO.only
  have HMT := Lib.hid (HM6.out wS.drew (((HM.out.keep HOW.out).keep o5).keep ((Only.refl [] wS).drew)))
  obtain ⟨n0, n1, n2, n3⟩ := (HK6.out.only o5 (fun hm => nomatch hm)).four
  have hlw2 := (HK6.out.only o5 (fun hm => nomatch hm)).lt
  have O5 := Lib.hid o5
  clear o5 hO m0 m1 m2 m3
  go_upto_region 6 with fail
  apply region_only (by kernel_rfl) (by kernel_rfl)
  apply rel_val (hrf := Tk_refl)
  case hw => rfl
  case hy => intro wS hN hF; skip; first | (go_simp; done) | (go_simp; with_reducible rfl)
  case' hk => skip
  try simp only [Act.put, List.setIfInBounds_toArray, List.set_cons_zero, List.set_cons_succ]
  apply rel_val (v := .string (St [117, 110, 83, 69, 69, 78])) (hrf := Tk_refl)
  case hw => rfl
  case hy =>
    intro wS hN hF
    first | (go_simp; done) | (go_simp; rfl)
  case' hk => skip
  try simp only [Act.put, List.setIfInBounds_toArray, List.set_cons_zero, List.set_cons_succ]
  apply rel_fact (φ := fun v W => ∃ A : Addr, v = .slice (some A) 1 1 ∧ Sl W (some A) 1 (tvL [[117, 110, 83, 69, 69, 78]])) (x := 9999) (hs := lasts0 (by kernel_rfl) (fun v W W' h ho => by obtain ⟨A, h1, h2⟩ := h; exact ⟨A, h1, h2.keep ho⟩))
  case hw => rfl
  case hy =>
    intro wS hN hF
    refine gives_value (u := .slice (some ⟨wS.heap.size, 0, none⟩) 1 1) (w' := wS.alloc (.cells #[.string (St [117, 110, 83, 69, 69, 78])] 9)) ?_ ⟨_, rfl, Sl.of_new _ _ _ _⟩ (Tk_only ((Only.refl [] _).alloc _))
    go_simp
  case' hk => intro v2
  try simp only [Act.put, List.setIfInBounds_toArray, List.set_cons_zero, List.set_cons_succ]
  apply rel_fact_call (φ := fun v W => ∃ (A : Option Addr) (c : Nat), v = .slice A 1 c ∧ Gr 2 W A 1 (gx tkl (atomsT [[117, 110, 83, 69, 69, 78]])) ∧ 1 ≤ c) (x := 9999) (hs := lasts0 (by kernel_rfl) (fun v W W' h ho => by obtain ⟨A, c, h1, h2, h3⟩ := h; exact ⟨A, c, h1, h2.keep ho, h3⟩))
  case hw => rfl
  case hc =>
    intro wS hN hF
    obtain ⟨A, rfl, h2⟩ := hF.at_ 0 rfl (by kernel_rfl) (by kernel_rfl)
    refine ⟨20, #[.slice (some A) 1 1], by go_simp, (atoms_any h2 (by omega)).mono ?_⟩
    rintro e w3 ⟨A', c', rfl, hG, _, hO⟩
    exact ⟨_, rfl, ⟨A', c', rfl, hG.reads, hG.cap⟩, Tk_only hO⟩
  case' hk => intro v3
  try simp only [Act.put, List.setIfInBounds_toArray, List.set_cons_zero, List.set_cons_succ]
  apply rel_val (hrf := Tk_refl)
  case hw => rfl
  case hy => intro wS hN hF; have hq0 := (hN.pre (by kernel_rfl)).cellSome n0 (fun hm => nomatch hm); have hq1 := (hN.pre (by kernel_rfl)).cellSome n1 (fun hm => nomatch hm); have hq2 := (hN.pre (by kernel_rfl)).cellSome n2 (fun hm => nomatch hm); have hq3 := (hN.pre (by kernel_rfl)).cellSome n3 (fun hm => nomatch hm); first | (go_simp; done) | (go_simp; with_reducible rfl)
  case' hk => skip
  try simp only [Act.put, List.setIfInBounds_toArray, List.set_cons_zero, List.set_cons_succ]
  apply rel_fact_call (φ := fun v W => v = .tuple #[.bool !B, .bool true]) (x := 9999) (hs := lasts0 (by kernel_rfl) (fun v W W' h ho => h))
  case hw => rfl
  case hc =>
    intro wS hN hF
    obtain ⟨A, c, rfl, hG, hc⟩ := hF.at_ 0 rfl (by kernel_rfl) (by kernel_rfl)
    refine ⟨19, #[.slice A 1 c, .agg #[.int .i64 3, .int .i64 f, .int .i64 0, .slice none 0 0]], by go_simp, (HMT.out wS A c (hN.pre (by kernel_rfl)) hG hc).mono ?_⟩
    rintro e w3 ⟨rfl, hO⟩
    exact ⟨_, rfl, rfl, Tk_only hO⟩
  case' hk => intro v5
  try simp only [Act.put, List.setIfInBounds_toArray, List.set_cons_zero, List.set_cons_succ]
  apply rel_val (v := .tuple #[.bool !B, .bool true]) (hrf := Tk_refl)
  case hw => rfl
  case hy =>
    intro wS hN hF
    obtain rfl := hF.at_ 0 rfl (by kernel_rfl) (by kernel_rfl)
    go_simp
  case' hk => skip
  try simp only [Act.put, List.setIfInBounds_toArray, List.set_cons_zero, List.set_cons_succ]
  apply rel_val (hrf := Tk_refl)
  case hw => rfl
  case hy => intro wS hN hF; skip; first | (go_simp; done) | (go_simp; with_reducible rfl)
  case' hk => skip
  try simp only [Act.put, List.setIfInBounds_toArray, List.set_cons_zero, List.set_cons_succ]
  apply rel_val (hrf := Tk_refl)
  case hw => rfl
  case hy => intro wS hN hF; skip; first | (go_simp; done) | (go_simp; with_reducible rfl)
  case' hk => skip
  try simp only [Act.put, List.setIfInBounds_toArray, List.set_cons_zero, List.set_cons_succ]
  apply rel_val (hrf := Tk_refl)
  case hw => rfl
  case hy => intro wS hN hF; skip; first | (go_simp; done) | (go_simp; with_reducible rfl)
  case' hk => skip
  try simp only [Act.put, List.setIfInBounds_toArray, List.set_cons_zero, List.set_cons_succ]
  apply rel_val (hrf := Tk_refl)
  case hw => rfl
  case hy => intro wS hN hF; skip; first | (go_simp; done) | (go_simp; with_reducible rfl)
  case' hk => skip
  try simp only [Act.put, List.setIfInBounds_toArray, List.set_cons_zero, List.set_cons_succ]
  refine rel_end ?_
  intro wT hO hF
  clear hF HMT
  have o6 : Only [] w wT := ((HOW.out.then O5.out).drew).then hO.only
  have HK := Lib.hid (known_any wT (HM.out.keep o6))
  have O6 := Lib.hid o6
  clear o6 hO n0 n1 n2 n3
  have hbb : (bits .and .i64 f 1 == 1) = B := by rw [← HB.out]; exact (by simpa using fl_bits h0 h1 (i := 0) (by omega))
  go_wp2_with (go_at_call 14; refine HK.out.mono ?_; rintro e w2 ⟨rfl, O2⟩)
  go_ret
  exact ⟨rfl, O6.out.then O2⟩
set_option maxRecDepth 100000 in
set_option maxHeartbeats 4000000 in
theorem flags_1 {w : World} (hM : MaxF w) (f : Int) (h0 : 0 ≤ f) (h1 : f ≤ 31) : Calls Tryd.prog 6 #[.int .i64 f, .int .i64 1] w fun e w' => e = .returned (.bool true) ∧ Only [] w w' := by
  obtain ⟨B, hB⟩ : ∃ B, flagB f ((2 ^ 1 : Nat) : Int) = B := ⟨_, rfl⟩
  have HM := Lib.hid hM
  have hmt : ∀ (ws : List (List UInt8)) (X : Bool), ws.length = 1 → (∀ s ∈ ws, s.length ≤ 140737488355328) → meansK ⟨3, f, 0, []⟩ 1 1 3 (kz (parseK (prs 16) (atomsT ws))) = X → (parseK (prs 16) (atomsT ws)).isSome = true →
      ∀ w2, MaxF w2 → ∀ wS A c, Only [] w2 wS → Gr 2 wS A 1 (gx tkl (atomsT ws)) → 1 ≤ c → Calls Tryd.prog 19 #[.slice A 1 c, .agg #[.int .i64 3, .int .i64 f, .int .i64 0, .slice none 0 0]] wS fun e w' => e = .returned (.tuple #[.bool X, .bool true]) ∧ Only [] wS w' := by
    intro ws X hl hlen hX hY w2 hM2 wS A c hO hG hc
    have := gr_atoms (m := ⟨3, f, 0, []⟩) (MA := none) (mn := 0) (mc := 0) hG hl hc (by omega) hlen (Bt.none_ _) (by omega) (fun x hx => nomatch hx) (hM2.keep hO)
    rw [hY, show max (3 : Int) 1 = 3 from rfl, hX] at this
    exact this
  have h5 := hmt [[97, 110, 115, 119, 101, 114, 101, 100]] B rfl (by decide) (by rw [show ([[97, 110, 115, 119, 101, 114, 101, 100]] : List (List UInt8)) = [flW 1] from rfl, (fl_parse 1 (by omega)).1]; exact (fl_means f 1).1.trans hB) (by rfl)
  have h6 := hmt [[117, 110, 97, 110, 115, 119, 101, 114, 101, 100]] (!B) rfl (by decide) (by rw [show ([[117, 110, 97, 110, 115, 119, 101, 114, 101, 100]] : List (List UInt8)) = [unW ++ flW 1] from rfl, (fl_parse 1 (by omega)).2]; exact (fl_means f 1).2.trans (by rw [hB])) (by rfl)
  have HM5 := Lib.hid h5
  have HM6 := Lib.hid h6
  have HB := Lib.hid hB
  clear h5 h6 hmt hM hB
  go_enter Tryd.func6, Tryd.ntmps6
  go_upto_region 5 with fail
  have K6 : Bk ((w.alloc (.cells #[.string ⟨#[83, 69, 69, 78]⟩, .string ⟨#[97, 110, 115, 119, 101, 114, 101, 100]⟩, .string ⟨#[70, 108, 97, 103, 103, 101, 100]⟩, .string ⟨#[100, 101, 108, 101, 116, 101, 100]⟩, .string ⟨#[68, 82, 65, 70, 84]⟩] 9)).alloc (.cells #[.int .i64 3, .int .i64 f, .int .i64 0, .slice none 0 0] 37)) (w.heap.size + 1) 37 #[.int .i64 3, .int .i64 f, .int .i64 0, .slice none 0 0] := by
    have := Bk.new (w.alloc (.cells #[.string ⟨#[83, 69, 69, 78]⟩, .string ⟨#[97, 110, 115, 119, 101, 114, 101, 100]⟩, .string ⟨#[70, 108, 97, 103, 103, 101, 100]⟩, .string ⟨#[100, 101, 108, 101, 116, 101, 100]⟩, .string ⟨#[68, 82, 65, 70, 84]⟩] 9)) 37 #[.int .i64 3, .int .i64 f, .int .i64 0, .slice none 0 0]
    rwa [World.size_alloc] at this
  have OW : Only [] w ((w.alloc (.cells #[.string ⟨#[83, 69, 69, 78]⟩, .string ⟨#[97, 110, 115, 119, 101, 114, 101, 100]⟩, .string ⟨#[70, 108, 97, 103, 103, 101, 100]⟩, .string ⟨#[100, 101, 108, 101, 116, 101, 100]⟩, .string ⟨#[68, 82, 65, 70, 84]⟩] 9)).alloc (.cells #[.int .i64 3, .int .i64 f, .int .i64 0, .slice none 0 0] 37)) := ((Only.refl _ _).alloc _).alloc _
  obtain ⟨W, hW⟩ : ∃ W, (w.alloc (.cells #[.string ⟨#[83, 69, 69, 78]⟩, .string ⟨#[97, 110, 115, 119, 101, 114, 101, 100]⟩, .string ⟨#[70, 108, 97, 103, 103, 101, 100]⟩, .string ⟨#[100, 101, 108, 101, 116, 101, 100]⟩, .string ⟨#[68, 82, 65, 70, 84]⟩] 9)).alloc (.cells #[.int .i64 3, .int .i64 f, .int .i64 0, .slice none 0 0] 37) = W := ⟨_, rfl⟩
  rw [hW] at K6 OW ⊢
  clear hW
  obtain ⟨g6, hg6⟩ : ∃ g6, w.heap.size + 1 = g6 := ⟨_, rfl⟩
  rw [hg6] at K6 ⊢
  have HG6 := Lib.hid hg6
  clear hg6
  obtain ⟨m0, m1, m2, m3⟩ := K6.four
  have hlw := K6.lt
  have HMT := Lib.hid (HM5.out W.drew ((HM.out.keep OW).keep ((Only.refl [] W).drew)))
  have HOW := Lib.hid OW
  have HK6 := Lib.hid K6
  clear OW K6
  apply region_only (by kernel_rfl) (by kernel_rfl)
  apply rel_val (hrf := Tk_refl)
  case hw => rfl
  case hy => intro wS hN hF; skip; first | (go_simp; done) | (go_simp; with_reducible rfl)
  case' hk => skip
  try simp only [Act.put, List.setIfInBounds_toArray, List.set_cons_zero, List.set_cons_succ]
  apply rel_fact (φ := fun v W => ∃ A : Addr, v = .slice (some A) 1 1 ∧ Sl W (some A) 1 (tvL [[97, 110, 115, 119, 101, 114, 101, 100]])) (x := 9999) (hs := lasts0 (by kernel_rfl) (fun v W W' h ho => by obtain ⟨A, h1, h2⟩ := h; exact ⟨A, h1, h2.keep ho⟩))
  case hw => rfl
  case hy =>
    intro wS hN hF
    refine gives_value (u := .slice (some ⟨wS.heap.size, 0, none⟩) 1 1) (w' := wS.alloc (.cells #[.string (St [97, 110, 115, 119, 101, 114, 101, 100])] 9)) ?_ ⟨_, rfl, Sl.of_new _ _ _ _⟩ (Tk_only ((Only.refl [] _).alloc _))
    go_simp
  case' hk => intro v1
  try simp only [Act.put, List.setIfInBounds_toArray, List.set_cons_zero, List.set_cons_succ]
  apply rel_fact_call (φ := fun v W => ∃ (A : Option Addr) (c : Nat), v = .slice A 1 c ∧ Gr 2 W A 1 (gx tkl (atomsT [[97, 110, 115, 119, 101, 114, 101, 100]])) ∧ 1 ≤ c) (x := 9999) (hs := lasts0 (by kernel_rfl) (fun v W W' h ho => by obtain ⟨A, c, h1, h2, h3⟩ := h; exact ⟨A, c, h1, h2.keep ho, h3⟩))
  case hw => rfl
  case hc =>
    intro wS hN hF
    obtain ⟨A, rfl, h2⟩ := hF.at_ 0 rfl (by kernel_rfl) (by kernel_rfl)
    refine ⟨20, #[.slice (some A) 1 1], by go_simp, (atoms_any h2 (by omega)).mono ?_⟩
    rintro e w3 ⟨A', c', rfl, hG, _, hO⟩
    exact ⟨_, rfl, ⟨A', c', rfl, hG.reads, hG.cap⟩, Tk_only hO⟩
  case' hk => intro v2
  try simp only [Act.put, List.setIfInBounds_toArray, List.set_cons_zero, List.set_cons_succ]
  apply rel_val (hrf := Tk_refl)
  case hw => rfl
  case hy => intro wS hN hF; have hq0 := (hN.pre (by kernel_rfl)).cellSome m0 (fun hm => nomatch hm); have hq1 := (hN.pre (by kernel_rfl)).cellSome m1 (fun hm => nomatch hm); have hq2 := (hN.pre (by kernel_rfl)).cellSome m2 (fun hm => nomatch hm); have hq3 := (hN.pre (by kernel_rfl)).cellSome m3 (fun hm => nomatch hm); first | (go_simp; done) | (go_simp; with_reducible rfl)
  case' hk => skip
  try simp only [Act.put, List.setIfInBounds_toArray, List.set_cons_zero, List.set_cons_succ]
  apply rel_fact_call (φ := fun v W => v = .tuple #[.bool B, .bool true]) (x := 9999) (hs := lasts0 (by kernel_rfl) (fun v W W' h ho => h))
  case hw => rfl
  case hc =>
    intro wS hN hF
    obtain ⟨A, c, rfl, hG, hc⟩ := hF.at_ 0 rfl (by kernel_rfl) (by kernel_rfl)
    refine ⟨19, #[.slice A 1 c, .agg #[.int .i64 3, .int .i64 f, .int .i64 0, .slice none 0 0]], by go_simp, (HMT.out wS A c (hN.pre (by kernel_rfl)) hG hc).mono ?_⟩
    rintro e w3 ⟨rfl, hO⟩
    exact ⟨_, rfl, rfl, Tk_only hO⟩
  case' hk => intro v4
  try simp only [Act.put, List.setIfInBounds_toArray, List.set_cons_zero, List.set_cons_succ]
  apply rel_val (v := .tuple #[.bool B, .bool true]) (hrf := Tk_refl)
  case hw => rfl
  case hy =>
    intro wS hN hF
    obtain rfl := hF.at_ 0 rfl (by kernel_rfl) (by kernel_rfl)
    go_simp
  case' hk => skip
  try simp only [Act.put, List.setIfInBounds_toArray, List.set_cons_zero, List.set_cons_succ]
  apply rel_val (hrf := Tk_refl)
  case hw => rfl
  case hy => intro wS hN hF; skip; first | (go_simp; done) | (go_simp; with_reducible rfl)
  case' hk => skip
  try simp only [Act.put, List.setIfInBounds_toArray, List.set_cons_zero, List.set_cons_succ]
  apply rel_val (hrf := Tk_refl)
  case hw => rfl
  case hy => intro wS hN hF; skip; first | (go_simp; done) | (go_simp; with_reducible rfl)
  case' hk => skip
  try simp only [Act.put, List.setIfInBounds_toArray, List.set_cons_zero, List.set_cons_succ]
  apply rel_val (hrf := Tk_refl)
  case hw => rfl
  case hy => intro wS hN hF; skip; first | (go_simp; done) | (go_simp; with_reducible rfl)
  case' hk => skip
  try simp only [Act.put, List.setIfInBounds_toArray, List.set_cons_zero, List.set_cons_succ]
  apply rel_val (hrf := Tk_refl)
  case hw => rfl
  case hy => intro wS hN hF; skip; first | (go_simp; done) | (go_simp; with_reducible rfl)
  case' hk => skip
  try simp only [Act.put, List.setIfInBounds_toArray, List.set_cons_zero, List.set_cons_succ]
  refine rel_end ?_
  intro wS hO hF
  clear hF HMT
  have o5 : Only [] W wS := ((Only.refl [] W).drew).then hO.only
  have HMT := Lib.hid (HM6.out wS.drew (((HM.out.keep HOW.out).keep o5).keep ((Only.refl [] wS).drew)))
  obtain ⟨n0, n1, n2, n3⟩ := (HK6.out.only o5 (fun hm => nomatch hm)).four
  have hlw2 := (HK6.out.only o5 (fun hm => nomatch hm)).lt
  have O5 := Lib.hid o5
  clear o5 hO m0 m1 m2 m3
  go_upto_region 6 with fail
  apply region_only (by kernel_rfl) (by kernel_rfl)
  apply rel_val (hrf := Tk_refl)
  case hw => rfl
  case hy => intro wS hN hF; skip; first | (go_simp; done) | (go_simp; with_reducible rfl)
  case' hk => skip
  try simp only [Act.put, List.setIfInBounds_toArray, List.set_cons_zero, List.set_cons_succ]
  apply rel_val (v := .string (St [117, 110, 97, 110, 115, 119, 101, 114, 101, 100])) (hrf := Tk_refl)
  case hw => rfl
  case hy =>
    intro wS hN hF
    first | (go_simp; done) | (go_simp; rfl)
  case' hk => skip
  try simp only [Act.put, List.setIfInBounds_toArray, List.set_cons_zero, List.set_cons_succ]
  apply rel_fact (φ := fun v W => ∃ A : Addr, v = .slice (some A) 1 1 ∧ Sl W (some A) 1 (tvL [[117, 110, 97, 110, 115, 119, 101, 114, 101, 100]])) (x := 9999) (hs := lasts0 (by kernel_rfl) (fun v W W' h ho => by obtain ⟨A, h1, h2⟩ := h; exact ⟨A, h1, h2.keep ho⟩))
  case hw => rfl
  case hy =>
    intro wS hN hF
    refine gives_value (u := .slice (some ⟨wS.heap.size, 0, none⟩) 1 1) (w' := wS.alloc (.cells #[.string (St [117, 110, 97, 110, 115, 119, 101, 114, 101, 100])] 9)) ?_ ⟨_, rfl, Sl.of_new _ _ _ _⟩ (Tk_only ((Only.refl [] _).alloc _))
    go_simp
  case' hk => intro v2
  try simp only [Act.put, List.setIfInBounds_toArray, List.set_cons_zero, List.set_cons_succ]
  apply rel_fact_call (φ := fun v W => ∃ (A : Option Addr) (c : Nat), v = .slice A 1 c ∧ Gr 2 W A 1 (gx tkl (atomsT [[117, 110, 97, 110, 115, 119, 101, 114, 101, 100]])) ∧ 1 ≤ c) (x := 9999) (hs := lasts0 (by kernel_rfl) (fun v W W' h ho => by obtain ⟨A, c, h1, h2, h3⟩ := h; exact ⟨A, c, h1, h2.keep ho, h3⟩))
  case hw => rfl
  case hc =>
    intro wS hN hF
    obtain ⟨A, rfl, h2⟩ := hF.at_ 0 rfl (by kernel_rfl) (by kernel_rfl)
    refine ⟨20, #[.slice (some A) 1 1], by go_simp, (atoms_any h2 (by omega)).mono ?_⟩
    rintro e w3 ⟨A', c', rfl, hG, _, hO⟩
    exact ⟨_, rfl, ⟨A', c', rfl, hG.reads, hG.cap⟩, Tk_only hO⟩
  case' hk => intro v3
  try simp only [Act.put, List.setIfInBounds_toArray, List.set_cons_zero, List.set_cons_succ]
  apply rel_val (hrf := Tk_refl)
  case hw => rfl
  case hy => intro wS hN hF; have hq0 := (hN.pre (by kernel_rfl)).cellSome n0 (fun hm => nomatch hm); have hq1 := (hN.pre (by kernel_rfl)).cellSome n1 (fun hm => nomatch hm); have hq2 := (hN.pre (by kernel_rfl)).cellSome n2 (fun hm => nomatch hm); have hq3 := (hN.pre (by kernel_rfl)).cellSome n3 (fun hm => nomatch hm); first | (go_simp; done) | (go_simp; with_reducible rfl)
  case' hk => skip
  try simp only [Act.put, List.setIfInBounds_toArray, List.set_cons_zero, List.set_cons_succ]
  apply rel_fact_call (φ := fun v W => v = .tuple #[.bool !B, .bool true]) (x := 9999) (hs := lasts0 (by kernel_rfl) (fun v W W' h ho => h))
  case hw => rfl
  case hc =>
    intro wS hN hF
    obtain ⟨A, c, rfl, hG, hc⟩ := hF.at_ 0 rfl (by kernel_rfl) (by kernel_rfl)
    refine ⟨19, #[.slice A 1 c, .agg #[.int .i64 3, .int .i64 f, .int .i64 0, .slice none 0 0]], by go_simp, (HMT.out wS A c (hN.pre (by kernel_rfl)) hG hc).mono ?_⟩
    rintro e w3 ⟨rfl, hO⟩
    exact ⟨_, rfl, rfl, Tk_only hO⟩
  case' hk => intro v5
  try simp only [Act.put, List.setIfInBounds_toArray, List.set_cons_zero, List.set_cons_succ]
  apply rel_val (v := .tuple #[.bool !B, .bool true]) (hrf := Tk_refl)
  case hw => rfl
  case hy =>
    intro wS hN hF
    obtain rfl := hF.at_ 0 rfl (by kernel_rfl) (by kernel_rfl)
    go_simp
  case' hk => skip
  try simp only [Act.put, List.setIfInBounds_toArray, List.set_cons_zero, List.set_cons_succ]
  apply rel_val (hrf := Tk_refl)
  case hw => rfl
  case hy => intro wS hN hF; skip; first | (go_simp; done) | (go_simp; with_reducible rfl)
  case' hk => skip
  try simp only [Act.put, List.setIfInBounds_toArray, List.set_cons_zero, List.set_cons_succ]
  apply rel_val (hrf := Tk_refl)
  case hw => rfl
  case hy => intro wS hN hF; skip; first | (go_simp; done) | (go_simp; with_reducible rfl)
  case' hk => skip
  try simp only [Act.put, List.setIfInBounds_toArray, List.set_cons_zero, List.set_cons_succ]
  apply rel_val (hrf := Tk_refl)
  case hw => rfl
  case hy => intro wS hN hF; skip; first | (go_simp; done) | (go_simp; with_reducible rfl)
  case' hk => skip
  try simp only [Act.put, List.setIfInBounds_toArray, List.set_cons_zero, List.set_cons_succ]
  apply rel_val (hrf := Tk_refl)
  case hw => rfl
  case hy => intro wS hN hF; skip; first | (go_simp; done) | (go_simp; with_reducible rfl)
  case' hk => skip
  try simp only [Act.put, List.setIfInBounds_toArray, List.set_cons_zero, List.set_cons_succ]
  refine rel_end ?_
  intro wT hO hF
  clear hF HMT
  have o6 : Only [] w wT := ((HOW.out.then O5.out).drew).then hO.only
  have HK := Lib.hid (known_any wT (HM.out.keep o6))
  have O6 := Lib.hid o6
  clear o6 hO n0 n1 n2 n3
  have hbb : (bits .and .i64 (f / 2) 1 == 1) = B := by rw [← HB.out]; exact (by simpa using fl_bits h0 h1 (i := 1) (by omega))
  go_wp2_with (go_at_call 14; refine HK.out.mono ?_; rintro e w2 ⟨rfl, O2⟩)
  go_ret
  exact ⟨rfl, O6.out.then O2⟩
set_option maxRecDepth 100000 in
set_option maxHeartbeats 4000000 in
theorem flags_2 {w : World} (hM : MaxF w) (f : Int) (h0 : 0 ≤ f) (h1 : f ≤ 31) : Calls Tryd.prog 6 #[.int .i64 f, .int .i64 2] w fun e w' => e = .returned (.bool true) ∧ Only [] w w' := by
  obtain ⟨B, hB⟩ : ∃ B, flagB f ((2 ^ 2 : Nat) : Int) = B := ⟨_, rfl⟩
  have HM := Lib.hid hM
  have hmt : ∀ (ws : List (List UInt8)) (X : Bool), ws.length = 1 → (∀ s ∈ ws, s.length ≤ 140737488355328) → meansK ⟨3, f, 0, []⟩ 1 1 3 (kz (parseK (prs 16) (atomsT ws))) = X → (parseK (prs 16) (atomsT ws)).isSome = true →
      ∀ w2, MaxF w2 → ∀ wS A c, Only [] w2 wS → Gr 2 wS A 1 (gx tkl (atomsT ws)) → 1 ≤ c → Calls Tryd.prog 19 #[.slice A 1 c, .agg #[.int .i64 3, .int .i64 f, .int .i64 0, .slice none 0 0]] wS fun e w' => e = .returned (.tuple #[.bool X, .bool true]) ∧ Only [] wS w' := by
    intro ws X hl hlen hX hY w2 hM2 wS A c hO hG hc
    have := gr_atoms (m := ⟨3, f, 0, []⟩) (MA := none) (mn := 0) (mc := 0) hG hl hc (by omega) hlen (Bt.none_ _) (by omega) (fun x hx => nomatch hx) (hM2.keep hO)
    rw [hY, show max (3 : Int) 1 = 3 from rfl, hX] at this
    exact this
  have h5 := hmt [[70, 108, 97, 103, 103, 101, 100]] B rfl (by decide) (by rw [show ([[70, 108, 97, 103, 103, 101, 100]] : List (List UInt8)) = [flW 2] from rfl, (fl_parse 2 (by omega)).1]; exact (fl_means f 2).1.trans hB) (by rfl)
  have h6 := hmt [[117, 110, 70, 108, 97, 103, 103, 101, 100]] (!B) rfl (by decide) (by rw [show ([[117, 110, 70, 108, 97, 103, 103, 101, 100]] : List (List UInt8)) = [unW ++ flW 2] from rfl, (fl_parse 2 (by omega)).2]; exact (fl_means f 2).2.trans (by rw [hB])) (by rfl)
  have HM5 := Lib.hid h5
  have HM6 := Lib.hid h6
  have HB := Lib.hid hB
  clear h5 h6 hmt hM hB
  go_enter Tryd.func6, Tryd.ntmps6
  go_upto_region 5 with fail
  have K6 : Bk ((w.alloc (.cells #[.string ⟨#[83, 69, 69, 78]⟩, .string ⟨#[97, 110, 115, 119, 101, 114, 101, 100]⟩, .string ⟨#[70, 108, 97, 103, 103, 101, 100]⟩, .string ⟨#[100, 101, 108, 101, 116, 101, 100]⟩, .string ⟨#[68, 82, 65, 70, 84]⟩] 9)).alloc (.cells #[.int .i64 3, .int .i64 f, .int .i64 0, .slice none 0 0] 37)) (w.heap.size + 1) 37 #[.int .i64 3, .int .i64 f, .int .i64 0, .slice none 0 0] := by
    have := Bk.new (w.alloc (.cells #[.string ⟨#[83, 69, 69, 78]⟩, .string ⟨#[97, 110, 115, 119, 101, 114, 101, 100]⟩, .string ⟨#[70, 108, 97, 103, 103, 101, 100]⟩, .string ⟨#[100, 101, 108, 101, 116, 101, 100]⟩, .string ⟨#[68, 82, 65, 70, 84]⟩] 9)) 37 #[.int .i64 3, .int .i64 f, .int .i64 0, .slice none 0 0]
    rwa [World.size_alloc] at this
  have OW : Only [] w ((w.alloc (.cells #[.string ⟨#[83, 69, 69, 78]⟩, .string ⟨#[97, 110, 115, 119, 101, 114, 101, 100]⟩, .string ⟨#[70, 108, 97, 103, 103, 101, 100]⟩, .string ⟨#[100, 101, 108, 101, 116, 101, 100]⟩, .string ⟨#[68, 82, 65, 70, 84]⟩] 9)).alloc (.cells #[.int .i64 3, .int .i64 f, .int .i64 0, .slice none 0 0] 37)) := ((Only.refl _ _).alloc _).alloc _
  obtain ⟨W, hW⟩ : ∃ W, (w.alloc (.cells #[.string ⟨#[83, 69, 69, 78]⟩, .string ⟨#[97, 110, 115, 119, 101, 114, 101, 100]⟩, .string ⟨#[70, 108, 97, 103, 103, 101, 100]⟩, .string ⟨#[100, 101, 108, 101, 116, 101, 100]⟩, .string ⟨#[68, 82, 65, 70, 84]⟩] 9)).alloc (.cells #[.int .i64 3, .int .i64 f, .int .i64 0, .slice none 0 0] 37) = W := ⟨_, rfl⟩
  rw [hW] at K6 OW ⊢
  clear hW
  obtain ⟨g6, hg6⟩ : ∃ g6, w.heap.size + 1 = g6 := ⟨_, rfl⟩
  rw [hg6] at K6 ⊢
  have HG6 := Lib.hid hg6
  clear hg6
  obtain ⟨m0, m1, m2, m3⟩ := K6.four
  have hlw := K6.lt
  have HMT := Lib.hid (HM5.out W.drew ((HM.out.keep OW).keep ((Only.refl [] W).drew)))
  have HOW := Lib.hid OW
  have HK6 := Lib.hid K6
  clear OW K6
  apply region_only (by kernel_rfl) (by kernel_rfl)
  apply rel_val (hrf := Tk_refl)
  case hw => rfl
  case hy => intro wS hN hF; skip; first | (go_simp; done) | (go_simp; with_reducible rfl)
  case' hk => skip
  try simp only [Act.put, List.setIfInBounds_toArray, List.set_cons_zero, List.set_cons_succ]
  apply rel_fact (φ := fun v W => ∃ A : Addr, v = .slice (some A) 1 1 ∧ Sl W (some A) 1 (tvL [[70, 108, 97, 103, 103, 101, 100]])) (x := 9999) (hs := lasts0 (by kernel_rfl) (fun v W W' h ho => by obtain ⟨A, h1, h2⟩ := h; exact ⟨A, h1, h2.keep ho⟩))
  case hw => rfl
  case hy =>
    intro wS hN hF
    refine gives_value (u := .slice (some ⟨wS.heap.size, 0, none⟩) 1 1) (w' := wS.alloc (.cells #[.string (St [70, 108, 97, 103, 103, 101, 100])] 9)) ?_ ⟨_, rfl, Sl.of_new _ _ _ _⟩ (Tk_only ((Only.refl [] _).alloc _))
    go_simp
  case' hk => intro v1
  try simp only [Act.put, List.setIfInBounds_toArray, List.set_cons_zero, List.set_cons_succ]
  apply rel_fact_call (φ := fun v W => ∃ (A : Option Addr) (c : Nat), v = .slice A 1 c ∧ Gr 2 W A 1 (gx tkl (atomsT [[70, 108, 97, 103, 103, 101, 100]])) ∧ 1 ≤ c) (x := 9999) (hs := lasts0 (by kernel_rfl) (fun v W W' h ho => by obtain ⟨A, c, h1, h2, h3⟩ := h; exact ⟨A, c, h1, h2.keep ho, h3⟩))
  case hw => rfl
  case hc =>
    intro wS hN hF
    obtain ⟨A, rfl, h2⟩ := hF.at_ 0 rfl (by kernel_rfl) (by kernel_rfl)
    refine ⟨20, #[.slice (some A) 1 1], by go_simp, (atoms_any h2 (by omega)).mono ?_⟩
    rintro e w3 ⟨A', c', rfl, hG, _, hO⟩
    exact ⟨_, rfl, ⟨A', c', rfl, hG.reads, hG.cap⟩, Tk_only hO⟩
  case' hk => intro v2
  try simp only [Act.put, List.setIfInBounds_toArray, List.set_cons_zero, List.set_cons_succ]
  apply rel_val (hrf := Tk_refl)
  case hw => rfl
  case hy => intro wS hN hF; have hq0 := (hN.pre (by kernel_rfl)).cellSome m0 (fun hm => nomatch hm); have hq1 := (hN.pre (by kernel_rfl)).cellSome m1 (fun hm => nomatch hm); have hq2 := (hN.pre (by kernel_rfl)).cellSome m2 (fun hm => nomatch hm); have hq3 := (hN.pre (by kernel_rfl)).cellSome m3 (fun hm => nomatch hm); first | (go_simp; done) | (go_simp; with_reducible rfl)
  case' hk => skip
  try simp only [Act.put, List.setIfInBounds_toArray, List.set_cons_zero, List.set_cons_succ]
  apply rel_fact_call (φ := fun v W => v = .tuple #[.bool B, .bool true]) (x := 9999) (hs := lasts0 (by kernel_rfl) (fun v W W' h ho => h))
  case hw => rfl
  case hc =>
    intro wS hN hF
    obtain ⟨A, c, rfl, hG, hc⟩ := hF.at_ 0 rfl (by kernel_rfl) (by kernel_rfl)
    refine ⟨19, #[.slice A 1 c, .agg #[.int .i64 3, .int .i64 f, .int .i64 0, .slice none 0 0]], by go_simp, (HMT.out wS A c (hN.pre (by kernel_rfl)) hG hc).mono ?_⟩
    rintro e w3 ⟨rfl, hO⟩
    exact ⟨_, rfl, rfl, Tk_only hO⟩
  case' hk => intro v4
  try simp only [Act.put, List.setIfInBounds_toArray, List.set_cons_zero, List.set_cons_succ]
  apply rel_val (v := .tuple #[.bool B, .bool true]) (hrf := Tk_refl)
  case hw => rfl
  case hy =>
    intro wS hN hF
    obtain rfl := hF.at_ 0 rfl (by kernel_rfl) (by kernel_rfl)
    go_simp
  case' hk => skip
  try simp only [Act.put, List.setIfInBounds_toArray, List.set_cons_zero, List.set_cons_succ]
  apply rel_val (hrf := Tk_refl)
  case hw => rfl
  case hy => intro wS hN hF; skip; first | (go_simp; done) | (go_simp; with_reducible rfl)
  case' hk => skip
  try simp only [Act.put, List.setIfInBounds_toArray, List.set_cons_zero, List.set_cons_succ]
  apply rel_val (hrf := Tk_refl)
  case hw => rfl
  case hy => intro wS hN hF; skip; first | (go_simp; done) | (go_simp; with_reducible rfl)
  case' hk => skip
  try simp only [Act.put, List.setIfInBounds_toArray, List.set_cons_zero, List.set_cons_succ]
  apply rel_val (hrf := Tk_refl)
  case hw => rfl
  case hy => intro wS hN hF; skip; first | (go_simp; done) | (go_simp; with_reducible rfl)
  case' hk => skip
  try simp only [Act.put, List.setIfInBounds_toArray, List.set_cons_zero, List.set_cons_succ]
  apply rel_val (hrf := Tk_refl)
  case hw => rfl
  case hy => intro wS hN hF; skip; first | (go_simp; done) | (go_simp; with_reducible rfl)
  case' hk => skip
  try simp only [Act.put, List.setIfInBounds_toArray, List.set_cons_zero, List.set_cons_succ]
  refine rel_end ?_
  intro wS hO hF
  clear hF HMT
  have o5 : Only [] W wS := ((Only.refl [] W).drew).then hO.only
  have HMT := Lib.hid (HM6.out wS.drew (((HM.out.keep HOW.out).keep o5).keep ((Only.refl [] wS).drew)))
  obtain ⟨n0, n1, n2, n3⟩ := (HK6.out.only o5 (fun hm => nomatch hm)).four
  have hlw2 := (HK6.out.only o5 (fun hm => nomatch hm)).lt
  have O5 := Lib.hid o5
  clear o5 hO m0 m1 m2 m3
  go_upto_region 6 with fail
  apply region_only (by kernel_rfl) (by kernel_rfl)
  apply rel_val (hrf := Tk_refl)
  case hw => rfl
  case hy => intro wS hN hF; skip; first | (go_simp; done) | (go_simp; with_reducible rfl)
  case' hk => skip
  try simp only [Act.put, List.setIfInBounds_toArray, List.set_cons_zero, List.set_cons_succ]
  apply rel_val (v := .string (St [117, 110, 70, 108, 97, 103, 103, 101, 100])) (hrf := Tk_refl)
  case hw => rfl
  case hy =>
    intro wS hN hF
    first | (go_simp; done) | (go_simp; rfl)
  case' hk => skip
  try simp only [Act.put, List.setIfInBounds_toArray, List.set_cons_zero, List.set_cons_succ]
  apply rel_fact (φ := fun v W => ∃ A : Addr, v = .slice (some A) 1 1 ∧ Sl W (some A) 1 (tvL [[117, 110, 70, 108, 97, 103, 103, 101, 100]])) (x := 9999) (hs := lasts0 (by kernel_rfl) (fun v W W' h ho => by obtain ⟨A, h1, h2⟩ := h; exact ⟨A, h1, h2.keep ho⟩))
  case hw => rfl
  case hy =>
    intro wS hN hF
    refine gives_value (u := .slice (some ⟨wS.heap.size, 0, none⟩) 1 1) (w' := wS.alloc (.cells #[.string (St [117, 110, 70, 108, 97, 103, 103, 101, 100])] 9)) ?_ ⟨_, rfl, Sl.of_new _ _ _ _⟩ (Tk_only ((Only.refl [] _).alloc _))
    go_simp
  case' hk => intro v2
  try simp only [Act.put, List.setIfInBounds_toArray, List.set_cons_zero, List.set_cons_succ]
  apply rel_fact_call (φ := fun v W => ∃ (A : Option Addr) (c : Nat), v = .slice A 1 c ∧ Gr 2 W A 1 (gx tkl (atomsT [[117, 110, 70, 108, 97, 103, 103, 101, 100]])) ∧ 1 ≤ c) (x := 9999) (hs := lasts0 (by kernel_rfl) (fun v W W' h ho => by obtain ⟨A, c, h1, h2, h3⟩ := h; exact ⟨A, c, h1, h2.keep ho, h3⟩))
  case hw => rfl
  case hc =>
    intro wS hN hF
    obtain ⟨A, rfl, h2⟩ := hF.at_ 0 rfl (by kernel_rfl) (by kernel_rfl)
    refine ⟨20, #[.slice (some A) 1 1], by go_simp, (atoms_any h2 (by omega)).mono ?_⟩
    rintro e w3 ⟨A', c', rfl, hG, _, hO⟩
    exact ⟨_, rfl, ⟨A', c', rfl, hG.reads, hG.cap⟩, Tk_only hO⟩
  case' hk => intro v3
  try simp only [Act.put, List.setIfInBounds_toArray, List.set_cons_zero, List.set_cons_succ]
  apply rel_val (hrf := Tk_refl)
  case hw => rfl
  case hy => intro wS hN hF; have hq0 := (hN.pre (by kernel_rfl)).cellSome n0 (fun hm => nomatch hm); have hq1 := (hN.pre (by kernel_rfl)).cellSome n1 (fun hm => nomatch hm); have hq2 := (hN.pre (by kernel_rfl)).cellSome n2 (fun hm => nomatch hm); have hq3 := (hN.pre (by kernel_rfl)).cellSome n3 (fun hm => nomatch hm); first | (go_simp; done) | (go_simp; with_reducible rfl)
  case' hk => skip
  try simp only [Act.put, List.setIfInBounds_toArray, List.set_cons_zero, List.set_cons_succ]
  apply rel_fact_call (φ := fun v W => v = .tuple #[.bool !B, .bool true]) (x := 9999) (hs := lasts0 (by kernel_rfl) (fun v W W' h ho => h))
  case hw => rfl
  case hc =>
    intro wS hN hF
    obtain ⟨A, c, rfl, hG, hc⟩ := hF.at_ 0 rfl (by kernel_rfl) (by kernel_rfl)
    refine ⟨19, #[.slice A 1 c, .agg #[.int .i64 3, .int .i64 f, .int .i64 0, .slice none 0 0]], by go_simp, (HMT.out wS A c (hN.pre (by kernel_rfl)) hG hc).mono ?_⟩
    rintro e w3 ⟨rfl, hO⟩
    exact ⟨_, rfl, rfl, Tk_only hO⟩
  case' hk => intro v5
  try simp only [Act.put, List.setIfInBounds_toArray, List.set_cons_zero, List.set_cons_succ]
  apply rel_val (v := .tuple #[.bool !B, .bool true]) (hrf := Tk_refl)
  case hw => rfl
  case hy =>
    intro wS hN hF
    obtain rfl := hF.at_ 0 rfl (by kernel_rfl) (by kernel_rfl)
    go_simp
  case' hk => skip
  try simp only [Act.put, List.setIfInBounds_toArray, List.set_cons_zero, List.set_cons_succ]
  apply rel_val (hrf := Tk_refl)
  case hw => rfl
  case hy => intro wS hN hF; skip; first | (go_simp; done) | (go_simp; with_reducible rfl)
  case' hk => skip
  try simp only [Act.put, List.setIfInBounds_toArray, List.set_cons_zero, List.set_cons_succ]
  apply rel_val (hrf := Tk_refl)
  case hw => rfl
  case hy => intro wS hN hF; skip; first | (go_simp; done) | (go_simp; with_reducible rfl)
  case' hk => skip
  try simp only [Act.put, List.setIfInBounds_toArray, List.set_cons_zero, List.set_cons_succ]
  apply rel_val (hrf := Tk_refl)
  case hw => rfl
  case hy => intro wS hN hF; skip; first | (go_simp; done) | (go_simp; with_reducible rfl)
  case' hk => skip
  try simp only [Act.put, List.setIfInBounds_toArray, List.set_cons_zero, List.set_cons_succ]
  apply rel_val (hrf := Tk_refl)
  case hw => rfl
  case hy => intro wS hN hF; skip; first | (go_simp; done) | (go_simp; with_reducible rfl)
  case' hk => skip
  try simp only [Act.put, List.setIfInBounds_toArray, List.set_cons_zero, List.set_cons_succ]
  refine rel_end ?_
  intro wT hO hF
  clear hF HMT
  have o6 : Only [] w wT := ((HOW.out.then O5.out).drew).then hO.only
  have HK := Lib.hid (known_any wT (HM.out.keep o6))
  have O6 := Lib.hid o6
  clear o6 hO n0 n1 n2 n3
  have hbb : (bits .and .i64 (f / 4) 1 == 1) = B := by rw [← HB.out]; exact (by simpa using fl_bits h0 h1 (i := 2) (by omega))
  go_wp2_with (go_at_call 14; refine HK.out.mono ?_; rintro e w2 ⟨rfl, O2⟩)
  go_ret
  exact ⟨rfl, O6.out.then O2⟩
set_option maxRecDepth 100000 in
set_option maxHeartbeats 4000000 in
theorem flags_3 {w : World} (hM : MaxF w) (f : Int) (h0 : 0 ≤ f) (h1 : f ≤ 31) : Calls Tryd.prog 6 #[.int .i64 f, .int .i64 3] w fun e w' => e = .returned (.bool true) ∧ Only [] w w' := by
  obtain ⟨B, hB⟩ : ∃ B, flagB f ((2 ^ 3 : Nat) : Int) = B := ⟨_, rfl⟩
  have HM := Lib.hid hM
  have hmt : ∀ (ws : List (List UInt8)) (X : Bool), ws.length = 1 → (∀ s ∈ ws, s.length ≤ 140737488355328) → meansK ⟨3, f, 0, []⟩ 1 1 3 (kz (parseK (prs 16) (atomsT ws))) = X → (parseK (prs 16) (atomsT ws)).isSome = true →
      ∀ w2, MaxF w2 → ∀ wS A c, Only [] w2 wS → Gr 2 wS A 1 (gx tkl (atomsT ws)) → 1 ≤ c → Calls Tryd.prog 19 #[.slice A 1 c, .agg #[.int .i64 3, .int .i64 f, .int .i64 0, .slice none 0 0]] wS fun e w' => e = .returned (.tuple #[.bool X, .bool true]) ∧ Only [] wS w' := by
    intro ws X hl hlen hX hY w2 hM2 wS A c hO hG hc
    have := gr_atoms (m := ⟨3, f, 0, []⟩) (MA := none) (mn := 0) (mc := 0) hG hl hc (by omega) hlen (Bt.none_ _) (by omega) (fun x hx => nomatch hx) (hM2.keep hO)
    rw [hY, show max (3 : Int) 1 = 3 from rfl, hX] at this
    exact this
  have h5 := hmt [[100, 101, 108, 101, 116, 101, 100]] B rfl (by decide) (by rw [show ([[100, 101, 108, 101, 116, 101, 100]] : List (List UInt8)) = [flW 3] from rfl, (fl_parse 3 (by omega)).1]; exact (fl_means f 3).1.trans hB) (by rfl)
  have h6 := hmt [[117, 110, 100, 101, 108, 101, 116, 101, 100]] (!B) rfl (by decide) (by rw [show ([[117, 110, 100, 101, 108, 101, 116, 101, 100]] : List (List UInt8)) = [unW ++ flW 3] from rfl, (fl_parse 3 (by omega)).2]; exact (fl_means f 3).2.trans (by rw [hB])) (by rfl)
  have HM5 := Lib.hid h5
  have HM6 := Lib.hid h6
  have HB := Lib.hid hB
  clear h5 h6 hmt hM hB
  go_enter Tryd.func6, Tryd.ntmps6
  go_upto_region 5 with fail
  have K6 : Bk ((w.alloc (.cells #[.string ⟨#[83, 69, 69, 78]⟩, .string ⟨#[97, 110, 115, 119, 101, 114, 101, 100]⟩, .string ⟨#[70, 108, 97, 103, 103, 101, 100]⟩, .string ⟨#[100, 101, 108, 101, 116, 101, 100]⟩, .string ⟨#[68, 82, 65, 70, 84]⟩] 9)).alloc (.cells #[.int .i64 3, .int .i64 f, .int .i64 0, .slice none 0 0] 37)) (w.heap.size + 1) 37 #[.int .i64 3, .int .i64 f, .int .i64 0, .slice none 0 0] := by
    have := Bk.new (w.alloc (.cells #[.string ⟨#[83, 69, 69, 78]⟩, .string ⟨#[97, 110, 115, 119, 101, 114, 101, 100]⟩, .string ⟨#[70, 108, 97, 103, 103, 101, 100]⟩, .string ⟨#[100, 101, 108, 101, 116, 101, 100]⟩, .string ⟨#[68, 82, 65, 70, 84]⟩] 9)) 37 #[.int .i64 3, .int .i64 f, .int .i64 0, .slice none 0 0]
    rwa [World.size_alloc] at this
  have OW : Only [] w ((w.alloc (.cells #[.string ⟨#[83, 69, 69, 78]⟩, .string ⟨#[97, 110, 115, 119, 101, 114, 101, 100]⟩, .string ⟨#[70, 108, 97, 103, 103, 101, 100]⟩, .string ⟨#[100, 101, 108, 101, 116, 101, 100]⟩, .string ⟨#[68, 82, 65, 70, 84]⟩] 9)).alloc (.cells #[.int .i64 3, .int .i64 f, .int .i64 0, .slice none 0 0] 37)) := ((Only.refl _ _).alloc _).alloc _
  obtain ⟨W, hW⟩ : ∃ W, (w.alloc (.cells #[.string ⟨#[83, 69, 69, 78]⟩, .string ⟨#[97, 110, 115, 119, 101, 114, 101, 100]⟩, .string ⟨#[70, 108, 97, 103, 103, 101, 100]⟩, .string ⟨#[100, 101, 108, 101, 116, 101, 100]⟩, .string ⟨#[68, 82, 65, 70, 84]⟩] 9)).alloc (.cells #[.int .i64 3, .int .i64 f, .int .i64 0, .slice none 0 0] 37) = W := ⟨_, rfl⟩
  rw [hW] at K6 OW ⊢
  clear hW
  obtain ⟨g6, hg6⟩ : ∃ g6, w.heap.size + 1 = g6 := ⟨_, rfl⟩
  rw [hg6] at K6 ⊢
  have HG6 := Lib.hid hg6
  clear hg6
  obtain ⟨m0, m1, m2, m3⟩ := K6.four
  have hlw := K6.lt
  have HMT := Lib.hid (HM5.out W.drew ((HM.out.keep OW).keep ((Only.refl [] W).drew)))
  have HOW := Lib.hid OW
  have HK6 := Lib.hid K6
  clear OW K6
  apply region_only (by kernel_rfl) (by kernel_rfl)
  apply rel_val (hrf := Tk_refl)
  case hw => rfl
  case hy => intro wS hN hF; skip; first | (go_simp; done) | (go_simp; with_reducible rfl)
  case' hk => skip
  try simp only [Act.put, List.setIfInBounds_toArray, List.set_cons_zero, List.set_cons_succ]
  apply rel_fact (φ := fun v W => ∃ A : Addr, v = .slice (some A) 1 1 ∧ Sl W (some A) 1 (tvL [[100, 101, 108, 101, 116, 101, 100]])) (x := 9999) (hs := lasts0 (by kernel_rfl) (fun v W W' h ho => by obtain ⟨A, h1, h2⟩ := h; exact ⟨A, h1, h2.keep ho⟩))
  case hw => rfl
  case hy =>
    intro wS hN hF
    refine gives_value (u := .slice (some ⟨wS.heap.size, 0, none⟩) 1 1) (w' := wS.alloc (.cells #[.string (St [100, 101, 108, 101, 116, 101, 100])] 9)) ?_ ⟨_, rfl, Sl.of_new _ _ _ _⟩ (Tk_only ((Only.refl [] _).alloc _))
    go_simp
  case' hk => intro v1
  try simp only [Act.put, List.setIfInBounds_toArray, List.set_cons_zero, List.set_cons_succ]
  apply rel_fact_call (φ := fun v W => ∃ (A : Option Addr) (c : Nat), v = .slice A 1 c ∧ Gr 2 W A 1 (gx tkl (atomsT [[100, 101, 108, 101, 116, 101, 100]])) ∧ 1 ≤ c) (x := 9999) (hs := lasts0 (by kernel_rfl) (fun v W W' h ho => by obtain ⟨A, c, h1, h2, h3⟩ := h; exact ⟨A, c, h1, h2.keep ho, h3⟩))
  case hw => rfl
  case hc =>
    intro wS hN hF
    obtain ⟨A, rfl, h2⟩ := hF.at_ 0 rfl (by kernel_rfl) (by kernel_rfl)
    refine ⟨20, #[.slice (some A) 1 1], by go_simp, (atoms_any h2 (by omega)).mono ?_⟩
    rintro e w3 ⟨A', c', rfl, hG, _, hO⟩
    exact ⟨_, rfl, ⟨A', c', rfl, hG.reads, hG.cap⟩, Tk_only hO⟩
  case' hk => intro v2
  try simp only [Act.put, List.setIfInBounds_toArray, List.set_cons_zero, List.set_cons_succ]
  apply rel_val (hrf := Tk_refl)
  case hw => rfl
  case hy => intro wS hN hF; have hq0 := (hN.pre (by kernel_rfl)).cellSome m0 (fun hm => nomatch hm); have hq1 := (hN.pre (by kernel_rfl)).cellSome m1 (fun hm => nomatch hm); have hq2 := (hN.pre (by kernel_rfl)).cellSome m2 (fun hm => nomatch hm); have hq3 := (hN.pre (by kernel_rfl)).cellSome m3 (fun hm => nomatch hm); first | (go_simp; done) | (go_simp; with_reducible rfl)
  case' hk => skip
  try simp only [Act.put, List.setIfInBounds_toArray, List.set_cons_zero, List.set_cons_succ]
  apply rel_fact_call (φ := fun v W => v = .tuple #[.bool B, .bool true]) (x := 9999) (hs := lasts0 (by kernel_rfl) (fun v W W' h ho => h))
  case hw => rfl
  case hc =>
    intro wS hN hF
    obtain ⟨A, c, rfl, hG, hc⟩ := hF.at_ 0 rfl (by kernel_rfl) (by kernel_rfl)
    refine ⟨19, #[.slice A 1 c, .agg #[.int .i64 3, .int .i64 f, .int .i64 0, .slice none 0 0]], by go_simp, (HMT.out wS A c (hN.pre (by kernel_rfl)) hG hc).mono ?_⟩
    rintro e w3 ⟨rfl, hO⟩
    exact ⟨_, rfl, rfl, Tk_only hO⟩
  case' hk => intro v4
  try simp only [Act.put, List.setIfInBounds_toArray, List.set_cons_zero, List.set_cons_succ]
  apply rel_val (v := .tuple #[.bool B, .bool true]) (hrf := Tk_refl)
  case hw => rfl
  case hy =>
    intro wS hN hF
    obtain rfl := hF.at_ 0 rfl (by kernel_rfl) (by kernel_rfl)
    go_simp
  case' hk => skip
  try simp only [Act.put, List.setIfInBounds_toArray, List.set_cons_zero, List.set_cons_succ]
  apply rel_val (hrf := Tk_refl)
  case hw => rfl
  case hy => intro wS hN hF; skip; first | (go_simp; done) | (go_simp; with_reducible rfl)
  case' hk => skip
  try simp only [Act.put, List.setIfInBounds_toArray, List.set_cons_zero, List.set_cons_succ]
  apply rel_val (hrf := Tk_refl)
  case hw => rfl
  case hy => intro wS hN hF; skip; first | (go_simp; done) | (go_simp; with_reducible rfl)
  case' hk => skip
  try simp only [Act.put, List.setIfInBounds_toArray, List.set_cons_zero, List.set_cons_succ]
  apply rel_val (hrf := Tk_refl)
  case hw => rfl
  case hy => intro wS hN hF; skip; first | (go_simp; done) | (go_simp; with_reducible rfl)
  case' hk => skip
  try simp only [Act.put, List.setIfInBounds_toArray, List.set_cons_zero, List.set_cons_succ]
  apply rel_val (hrf := Tk_refl)
  case hw => rfl
  case hy => intro wS hN hF; skip; first | (go_simp; done) | (go_simp; with_reducible rfl)
  case' hk => skip
  try simp only [Act.put, List.setIfInBounds_toArray, List.set_cons_zero, List.set_cons_succ]
  refine rel_end ?_
  intro wS hO hF
  clear hF HMT
  have o5 : Only [] W wS := ((Only.refl [] W).drew).then hO.only
  have HMT := Lib.hid (HM6.out wS.drew (((HM.out.keep HOW.out).keep o5).keep ((Only.refl [] wS).drew)))
  obtain ⟨n0, n1, n2, n3⟩ := (HK6.out.only o5 (fun hm => nomatch hm)).four
  have hlw2 := (HK6.out.only o5 (fun hm => nomatch hm)).lt
  have O5 := Lib.hid o5
  clear o5 hO m0 m1 m2 m3
  go_upto_region 6 with fail
  apply region_only (by kernel_rfl) (by kernel_rfl)
  apply rel_val (hrf := Tk_refl)
  case hw => rfl
  case hy => intro wS hN hF; skip; first | (go_simp; done) | (go_simp; with_reducible rfl)
  case' hk => skip
  try simp only [Act.put, List.setIfInBounds_toArray, List.set_cons_zero, List.set_cons_succ]
  apply rel_val (v := .string (St [117, 110, 100, 101, 108, 101, 116, 101, 100])) (hrf := Tk_refl)
  case hw => rfl
  case hy =>
    intro wS hN hF
    first | (go_simp; done) | (go_simp; rfl)
  case' hk => skip
  try simp only [Act.put, List.setIfInBounds_toArray, List.set_cons_zero, List.set_cons_succ]
  apply rel_fact (φ := fun v W => ∃ A : Addr, v = .slice (some A) 1 1 ∧ Sl W (some A) 1 (tvL [[117, 110, 100, 101, 108, 101, 116, 101, 100]])) (x := 9999) (hs := lasts0 (by kernel_rfl) (fun v W W' h ho => by obtain ⟨A, h1, h2⟩ := h; exact ⟨A, h1, h2.keep ho⟩))
  case hw => rfl
  case hy =>
    intro wS hN hF
    refine gives_value (u := .slice (some ⟨wS.heap.size, 0, none⟩) 1 1) (w' := wS.alloc (.cells #[.string (St [117, 110, 100, 101, 108, 101, 116, 101, 100])] 9)) ?_ ⟨_, rfl, Sl.of_new _ _ _ _⟩ (Tk_only ((Only.refl [] _).alloc _))
    go_simp
  case' hk => intro v2
  try simp only [Act.put, List.setIfInBounds_toArray, List.set_cons_zero, List.set_cons_succ]
  apply rel_fact_call (φ := fun v W => ∃ (A : Option Addr) (c : Nat), v = .slice A 1 c ∧ Gr 2 W A 1 (gx tkl (atomsT [[117, 110, 100, 101, 108, 101, 116, 101, 100]])) ∧ 1 ≤ c) (x := 9999) (hs := lasts0 (by kernel_rfl) (fun v W W' h ho => by obtain ⟨A, c, h1, h2, h3⟩ := h; exact ⟨A, c, h1, h2.keep ho, h3⟩))
  case hw => rfl
  case hc =>
    intro wS hN hF
    obtain ⟨A, rfl, h2⟩ := hF.at_ 0 rfl (by kernel_rfl) (by kernel_rfl)
    refine ⟨20, #[.slice (some A) 1 1], by go_simp, (atoms_any h2 (by omega)).mono ?_⟩
    rintro e w3 ⟨A', c', rfl, hG, _, hO⟩
    exact ⟨_, rfl, ⟨A', c', rfl, hG.reads, hG.cap⟩, Tk_only hO⟩
  case' hk => intro v3
  try simp only [Act.put, List.setIfInBounds_toArray, List.set_cons_zero, List.set_cons_succ]
  apply rel_val (hrf := Tk_refl)
  case hw => rfl
  case hy => intro wS hN hF; have hq0 := (hN.pre (by kernel_rfl)).cellSome n0 (fun hm => nomatch hm); have hq1 := (hN.pre (by kernel_rfl)).cellSome n1 (fun hm => nomatch hm); have hq2 := (hN.pre (by kernel_rfl)).cellSome n2 (fun hm => nomatch hm); have hq3 := (hN.pre (by kernel_rfl)).cellSome n3 (fun hm => nomatch hm); first | (go_simp; done) | (go_simp; with_reducible rfl)
  case' hk => skip
  try simp only [Act.put, List.setIfInBounds_toArray, List.set_cons_zero, List.set_cons_succ]
  apply rel_fact_call (φ := fun v W => v = .tuple #[.bool !B, .bool true]) (x := 9999) (hs := lasts0 (by kernel_rfl) (fun v W W' h ho => h))
  case hw => rfl
  case hc =>
    intro wS hN hF
    obtain ⟨A, c, rfl, hG, hc⟩ := hF.at_ 0 rfl (by kernel_rfl) (by kernel_rfl)
    refine ⟨19, #[.slice A 1 c, .agg #[.int .i64 3, .int .i64 f, .int .i64 0, .slice none 0 0]], by go_simp, (HMT.out wS A c (hN.pre (by kernel_rfl)) hG hc).mono ?_⟩
    rintro e w3 ⟨rfl, hO⟩
    exact ⟨_, rfl, rfl, Tk_only hO⟩
  case' hk => intro v5
  try simp only [Act.put, List.setIfInBounds_toArray, List.set_cons_zero, List.set_cons_succ]
  apply rel_val (v := .tuple #[.bool !B, .bool true]) (hrf := Tk_refl)
  case hw => rfl
  case hy =>
    intro wS hN hF
    obtain rfl := hF.at_ 0 rfl (by kernel_rfl) (by kernel_rfl)
    go_simp
  case' hk => skip
  try simp only [Act.put, List.setIfInBounds_toArray, List.set_cons_zero, List.set_cons_succ]
  apply rel_val (hrf := Tk_refl)
  case hw => rfl
  case hy => intro wS hN hF; skip; first | (go_simp; done) | (go_simp; with_reducible rfl)
  case' hk => skip
  try simp only [Act.put, List.setIfInBounds_toArray, List.set_cons_zero, List.set_cons_succ]
  apply rel_val (hrf := Tk_refl)
  case hw => rfl
  case hy => intro wS hN hF; skip; first | (go_simp; done) | (go_simp; with_reducible rfl)
  case' hk => skip
  try simp only [Act.put, List.setIfInBounds_toArray, List.set_cons_zero, List.set_cons_succ]
  apply rel_val (hrf := Tk_refl)
  case hw => rfl
  case hy => intro wS hN hF; skip; first | (go_simp; done) | (go_simp; with_reducible rfl)
  case' hk => skip
  try simp only [Act.put, List.setIfInBounds_toArray, List.set_cons_zero, List.set_cons_succ]
  apply rel_val (hrf := Tk_refl)
  case hw => rfl
  case hy => intro wS hN hF; skip; first | (go_simp; done) | (go_simp; with_reducible rfl)
  case' hk => skip
  try simp only [Act.put, List.setIfInBounds_toArray, List.set_cons_zero, List.set_cons_succ]
  refine rel_end ?_
  intro wT hO hF
  clear hF HMT
  have o6 : Only [] w wT := ((HOW.out.then O5.out).drew).then hO.only
  have HK := Lib.hid (known_any wT (HM.out.keep o6))
  have O6 := Lib.hid o6
  clear o6 hO n0 n1 n2 n3
  have hbb : (bits .and .i64 (f / 8) 1 == 1) = B := by rw [← HB.out]; exact (by simpa using fl_bits h0 h1 (i := 3) (by omega))
  go_wp2_with (go_at_call 14; refine HK.out.mono ?_; rintro e w2 ⟨rfl, O2⟩)
  go_ret
  exact ⟨rfl, O6.out.then O2⟩
set_option maxRecDepth 100000 in
set_option maxHeartbeats 4000000 in
theorem flags_4 {w : World} (hM : MaxF w) (f : Int) (h0 : 0 ≤ f) (h1 : f ≤ 31) : Calls Tryd.prog 6 #[.int .i64 f, .int .i64 4] w fun e w' => e = .returned (.bool true) ∧ Only [] w w' := by
  obtain ⟨B, hB⟩ : ∃ B, flagB f ((2 ^ 4 : Nat) : Int) = B := ⟨_, rfl⟩
  have HM := Lib.hid hM
  have hmt : ∀ (ws : List (List UInt8)) (X : Bool), ws.length = 1 → (∀ s ∈ ws, s.length ≤ 140737488355328) → meansK ⟨3, f, 0, []⟩ 1 1 3 (kz (parseK (prs 16) (atomsT ws))) = X → (parseK (prs 16) (atomsT ws)).isSome = true →
      ∀ w2, MaxF w2 → ∀ wS A c, Only [] w2 wS → Gr 2 wS A 1 (gx tkl (atomsT ws)) → 1 ≤ c → Calls Tryd.prog 19 #[.slice A 1 c, .agg #[.int .i64 3, .int .i64 f, .int .i64 0, .slice none 0 0]] wS fun e w' => e = .returned (.tuple #[.bool X, .bool true]) ∧ Only [] wS w' := by
    intro ws X hl hlen hX hY w2 hM2 wS A c hO hG hc
    have := gr_atoms (m := ⟨3, f, 0, []⟩) (MA := none) (mn := 0) (mc := 0) hG hl hc (by omega) hlen (Bt.none_ _) (by omega) (fun x hx => nomatch hx) (hM2.keep hO)
    rw [hY, show max (3 : Int) 1 = 3 from rfl, hX] at this
    exact this
  have h5 := hmt [[68, 82, 65, 70, 84]] B rfl (by decide) (by rw [show ([[68, 82, 65, 70, 84]] : List (List UInt8)) = [flW 4] from rfl, (fl_parse 4 (by omega)).1]; exact (fl_means f 4).1.trans hB) (by rfl)
  have h6 := hmt [[117, 110, 68, 82, 65, 70, 84]] (!B) rfl (by decide) (by rw [show ([[117, 110, 68, 82, 65, 70, 84]] : List (List UInt8)) = [unW ++ flW 4] from rfl, (fl_parse 4 (by omega)).2]; exact (fl_means f 4).2.trans (by rw [hB])) (by rfl)
  have HM5 := Lib.hid h5
  have HM6 := Lib.hid h6
  have HB := Lib.hid hB
  clear h5 h6 hmt hM hB
  go_enter Tryd.func6, Tryd.ntmps6
  go_upto_region 5 with fail
  have K6 : Bk ((w.alloc (.cells #[.string ⟨#[83, 69, 69, 78]⟩, .string ⟨#[97, 110, 115, 119, 101, 114, 101, 100]⟩, .string ⟨#[70, 108, 97, 103, 103, 101, 100]⟩, .string ⟨#[100, 101, 108, 101, 116, 101, 100]⟩, .string ⟨#[68, 82, 65, 70, 84]⟩] 9)).alloc (.cells #[.int .i64 3, .int .i64 f, .int .i64 0, .slice none 0 0] 37)) (w.heap.size + 1) 37 #[.int .i64 3, .int .i64 f, .int .i64 0, .slice none 0 0] := by
    have := Bk.new (w.alloc (.cells #[.string ⟨#[83, 69, 69, 78]⟩, .string ⟨#[97, 110, 115, 119, 101, 114, 101, 100]⟩, .string ⟨#[70, 108, 97, 103, 103, 101, 100]⟩, .string ⟨#[100, 101, 108, 101, 116, 101, 100]⟩, .string ⟨#[68, 82, 65, 70, 84]⟩] 9)) 37 #[.int .i64 3, .int .i64 f, .int .i64 0, .slice none 0 0]
    rwa [World.size_alloc] at this
  have OW : Only [] w ((w.alloc (.cells #[.string ⟨#[83, 69, 69, 78]⟩, .string ⟨#[97, 110, 115, 119, 101, 114, 101, 100]⟩, .string ⟨#[70, 108, 97, 103, 103, 101, 100]⟩, .string ⟨#[100, 101, 108, 101, 116, 101, 100]⟩, .string ⟨#[68, 82, 65, 70, 84]⟩] 9)).alloc (.cells #[.int .i64 3, .int .i64 f, .int .i64 0, .slice none 0 0] 37)) := ((Only.refl _ _).alloc _).alloc _
  obtain ⟨W, hW⟩ : ∃ W, (w.alloc (.cells #[.string ⟨#[83, 69, 69, 78]⟩, .string ⟨#[97, 110, 115, 119, 101, 114, 101, 100]⟩, .string ⟨#[70, 108, 97, 103, 103, 101, 100]⟩, .string ⟨#[100, 101, 108, 101, 116, 101, 100]⟩, .string ⟨#[68, 82, 65, 70, 84]⟩] 9)).alloc (.cells #[.int .i64 3, .int .i64 f, .int .i64 0, .slice none 0 0] 37) = W := ⟨_, rfl⟩
  rw [hW] at K6 OW ⊢
  clear hW
  obtain ⟨g6, hg6⟩ : ∃ g6, w.heap.size + 1 = g6 := ⟨_, rfl⟩
  rw [hg6] at K6 ⊢
  have HG6 := Lib.hid hg6
  clear hg6
  obtain ⟨m0, m1, m2, m3⟩ := K6.four
  have hlw := K6.lt
  have HMT := Lib.hid (HM5.out W.drew ((HM.out.keep OW).keep ((Only.refl [] W).drew)))
  have HOW := Lib.hid OW
  have HK6 := Lib.hid K6
  clear OW K6
  apply region_only (by kernel_rfl) (by kernel_rfl)
  apply rel_val (hrf := Tk_refl)
  case hw => rfl
  case hy => intro wS hN hF; skip; first | (go_simp; done) | (go_simp; with_reducible rfl)
  case' hk => skip
  try simp only [Act.put, List.setIfInBounds_toArray, List.set_cons_zero, List.set_cons_succ]
  apply rel_fact (φ := fun v W => ∃ A : Addr, v = .slice (some A) 1 1 ∧ Sl W (some A) 1 (tvL [[68, 82, 65, 70, 84]])) (x := 9999) (hs := lasts0 (by kernel_rfl) (fun v W W' h ho => by obtain ⟨A, h1, h2⟩ := h; exact ⟨A, h1, h2.keep ho⟩))
  case hw => rfl
  case hy =>
    intro wS hN hF
    refine gives_value (u := .slice (some ⟨wS.heap.size, 0, none⟩) 1 1) (w' := wS.alloc (.cells #[.string (St [68, 82, 65, 70, 84])] 9)) ?_ ⟨_, rfl, Sl.of_new _ _ _ _⟩ (Tk_only ((Only.refl [] _).alloc _))
    go_simp
  case' hk => intro v1
  try simp only [Act.put, List.setIfInBounds_toArray, List.set_cons_zero, List.set_cons_succ]
  apply rel_fact_call (φ := fun v W => ∃ (A : Option Addr) (c : Nat), v = .slice A 1 c ∧ Gr 2 W A 1 (gx tkl (atomsT [[68, 82, 65, 70, 84]])) ∧ 1 ≤ c) (x := 9999) (hs := lasts0 (by kernel_rfl) (fun v W W' h ho => by obtain ⟨A, c, h1, h2, h3⟩ := h; exact ⟨A, c, h1, h2.keep ho, h3⟩))
  case hw => rfl
  case hc =>
    intro wS hN hF
    obtain ⟨A, rfl, h2⟩ := hF.at_ 0 rfl (by kernel_rfl) (by kernel_rfl)
    refine ⟨20, #[.slice (some A) 1 1], by go_simp, (atoms_any h2 (by omega)).mono ?_⟩
    rintro e w3 ⟨A', c', rfl, hG, _, hO⟩
    exact ⟨_, rfl, ⟨A', c', rfl, hG.reads, hG.cap⟩, Tk_only hO⟩
  case' hk => intro v2
  try simp only [Act.put, List.setIfInBounds_toArray, List.set_cons_zero, List.set_cons_succ]
  apply rel_val (hrf := Tk_refl)
  case hw => rfl
  case hy => intro wS hN hF; have hq0 := (hN.pre (by kernel_rfl)).cellSome m0 (fun hm => nomatch hm); have hq1 := (hN.pre (by kernel_rfl)).cellSome m1 (fun hm => nomatch hm); have hq2 := (hN.pre (by kernel_rfl)).cellSome m2 (fun hm => nomatch hm); have hq3 := (hN.pre (by kernel_rfl)).cellSome m3 (fun hm => nomatch hm); first | (go_simp; done) | (go_simp; with_reducible rfl)
  case' hk => skip
  try simp only [Act.put, List.setIfInBounds_toArray, List.set_cons_zero, List.set_cons_succ]
  apply rel_fact_call (φ := fun v W => v = .tuple #[.bool B, .bool true]) (x := 9999) (hs := lasts0 (by kernel_rfl) (fun v W W' h ho => h))
  case hw => rfl
  case hc =>
    intro wS hN hF
    obtain ⟨A, c, rfl, hG, hc⟩ := hF.at_ 0 rfl (by kernel_rfl) (by kernel_rfl)
    refine ⟨19, #[.slice A 1 c, .agg #[.int .i64 3, .int .i64 f, .int .i64 0, .slice none 0 0]], by go_simp, (HMT.out wS A c (hN.pre (by kernel_rfl)) hG hc).mono ?_⟩
    rintro e w3 ⟨rfl, hO⟩
    exact ⟨_, rfl, rfl, Tk_only hO⟩
  case' hk => intro v4
  try simp only [Act.put, List.setIfInBounds_toArray, List.set_cons_zero, List.set_cons_succ]
  apply rel_val (v := .tuple #[.bool B, .bool true]) (hrf := Tk_refl)
  case hw => rfl
  case hy =>
    intro wS hN hF
    obtain rfl := hF.at_ 0 rfl (by kernel_rfl) (by kernel_rfl)
    go_simp
  case' hk => skip
  try simp only [Act.put, List.setIfInBounds_toArray, List.set_cons_zero, List.set_cons_succ]
  apply rel_val (hrf := Tk_refl)
  case hw => rfl
  case hy => intro wS hN hF; skip; first | (go_simp; done) | (go_simp; with_reducible rfl)
  case' hk => skip
  try simp only [Act.put, List.setIfInBounds_toArray, List.set_cons_zero, List.set_cons_succ]
  apply rel_val (hrf := Tk_refl)
  case hw => rfl
  case hy => intro wS hN hF; skip; first | (go_simp; done) | (go_simp; with_reducible rfl)
  case' hk => skip
  try simp only [Act.put, List.setIfInBounds_toArray, List.set_cons_zero, List.set_cons_succ]
  apply rel_val (hrf := Tk_refl)
  case hw => rfl
  case hy => intro wS hN hF; skip; first | (go_simp; done) | (go_simp; with_reducible rfl)
  case' hk => skip
  try simp only [Act.put, List.setIfInBounds_toArray, List.set_cons_zero, List.set_cons_succ]
  apply rel_val (hrf := Tk_refl)
  case hw => rfl
  case hy => intro wS hN hF; skip; first | (go_simp; done) | (go_simp; with_reducible rfl)
  case' hk => skip
  try simp only [Act.put, List.setIfInBounds_toArray, List.set_cons_zero, List.set_cons_succ]
  refine rel_end ?_
  intro wS hO hF
  clear hF HMT
  have o5 : Only [] W wS := ((Only.refl [] W).drew).then hO.only
  have HMT := Lib.hid (HM6.out wS.drew (((HM.out.keep HOW.out).keep o5).keep ((Only.refl [] wS).drew)))
  obtain ⟨n0, n1, n2, n3⟩ := (HK6.out.only o5 (fun hm => nomatch hm)).four
  have hlw2 := (HK6.out.only o5 (fun hm => nomatch hm)).lt
  have O5 := Lib.hid o5
  clear o5 hO m0 m1 m2 m3
  go_upto_region 6 with fail
  apply region_only (by kernel_rfl) (by kernel_rfl)
  apply rel_val (hrf := Tk_refl)
  case hw => rfl
  case hy => intro wS hN hF; skip; first | (go_simp; done) | (go_simp; with_reducible rfl)
  case' hk => skip
  try simp only [Act.put, List.setIfInBounds_toArray, List.set_cons_zero, List.set_cons_succ]
  apply rel_val (v := .string (St [117, 110, 68, 82, 65, 70, 84])) (hrf := Tk_refl)
  case hw => rfl
  case hy =>
    intro wS hN hF
    first | (go_simp; done) | (go_simp; rfl)
  case' hk => skip
  try simp only [Act.put, List.setIfInBounds_toArray, List.set_cons_zero, List.set_cons_succ]
  apply rel_fact (φ := fun v W => ∃ A : Addr, v = .slice (some A) 1 1 ∧ Sl W (some A) 1 (tvL [[117, 110, 68, 82, 65, 70, 84]])) (x := 9999) (hs := lasts0 (by kernel_rfl) (fun v W W' h ho => by obtain ⟨A, h1, h2⟩ := h; exact ⟨A, h1, h2.keep ho⟩))
  case hw => rfl
  case hy =>
    intro wS hN hF
    refine gives_value (u := .slice (some ⟨wS.heap.size, 0, none⟩) 1 1) (w' := wS.alloc (.cells #[.string (St [117, 110, 68, 82, 65, 70, 84])] 9)) ?_ ⟨_, rfl, Sl.of_new _ _ _ _⟩ (Tk_only ((Only.refl [] _).alloc _))
    go_simp
  case' hk => intro v2
  try simp only [Act.put, List.setIfInBounds_toArray, List.set_cons_zero, List.set_cons_succ]
  apply rel_fact_call (φ := fun v W => ∃ (A : Option Addr) (c : Nat), v = .slice A 1 c ∧ Gr 2 W A 1 (gx tkl (atomsT [[117, 110, 68, 82, 65, 70, 84]])) ∧ 1 ≤ c) (x := 9999) (hs := lasts0 (by kernel_rfl) (fun v W W' h ho => by obtain ⟨A, c, h1, h2, h3⟩ := h; exact ⟨A, c, h1, h2.keep ho, h3⟩))
  case hw => rfl
  case hc =>
    intro wS hN hF
    obtain ⟨A, rfl, h2⟩ := hF.at_ 0 rfl (by kernel_rfl) (by kernel_rfl)
    refine ⟨20, #[.slice (some A) 1 1], by go_simp, (atoms_any h2 (by omega)).mono ?_⟩
    rintro e w3 ⟨A', c', rfl, hG, _, hO⟩
    exact ⟨_, rfl, ⟨A', c', rfl, hG.reads, hG.cap⟩, Tk_only hO⟩
  case' hk => intro v3
  try simp only [Act.put, List.setIfInBounds_toArray, List.set_cons_zero, List.set_cons_succ]
  apply rel_val (hrf := Tk_refl)
  case hw => rfl
  case hy => intro wS hN hF; have hq0 := (hN.pre (by kernel_rfl)).cellSome n0 (fun hm => nomatch hm); have hq1 := (hN.pre (by kernel_rfl)).cellSome n1 (fun hm => nomatch hm); have hq2 := (hN.pre (by kernel_rfl)).cellSome n2 (fun hm => nomatch hm); have hq3 := (hN.pre (by kernel_rfl)).cellSome n3 (fun hm => nomatch hm); first | (go_simp; done) | (go_simp; with_reducible rfl)
  case' hk => skip
  try simp only [Act.put, List.setIfInBounds_toArray, List.set_cons_zero, List.set_cons_succ]
  apply rel_fact_call (φ := fun v W => v = .tuple #[.bool !B, .bool true]) (x := 9999) (hs := lasts0 (by kernel_rfl) (fun v W W' h ho => h))
  case hw => rfl
  case hc =>
    intro wS hN hF
    obtain ⟨A, c, rfl, hG, hc⟩ := hF.at_ 0 rfl (by kernel_rfl) (by kernel_rfl)
    refine ⟨19, #[.slice A 1 c, .agg #[.int .i64 3, .int .i64 f, .int .i64 0, .slice none 0 0]], by go_simp, (HMT.out wS A c (hN.pre (by kernel_rfl)) hG hc).mono ?_⟩
    rintro e w3 ⟨rfl, hO⟩
    exact ⟨_, rfl, rfl, Tk_only hO⟩
  case' hk => intro v5
  try simp only [Act.put, List.setIfInBounds_toArray, List.set_cons_zero, List.set_cons_succ]
  apply rel_val (v := .tuple #[.bool !B, .bool true]) (hrf := Tk_refl)
  case hw => rfl
  case hy =>
    intro wS hN hF
    obtain rfl := hF.at_ 0 rfl (by kernel_rfl) (by kernel_rfl)
    go_simp
  case' hk => skip
  try simp only [Act.put, List.setIfInBounds_toArray, List.set_cons_zero, List.set_cons_succ]
  apply rel_val (hrf := Tk_refl)
  case hw => rfl
  case hy => intro wS hN hF; skip; first | (go_simp; done) | (go_simp; with_reducible rfl)
  case' hk => skip
  try simp only [Act.put, List.setIfInBounds_toArray, List.set_cons_zero, List.set_cons_succ]
  apply rel_val (hrf := Tk_refl)
  case hw => rfl
  case hy => intro wS hN hF; skip; first | (go_simp; done) | (go_simp; with_reducible rfl)
  case' hk => skip
  try simp only [Act.put, List.setIfInBounds_toArray, List.set_cons_zero, List.set_cons_succ]
  apply rel_val (hrf := Tk_refl)
  case hw => rfl
  case hy => intro wS hN hF; skip; first | (go_simp; done) | (go_simp; with_reducible rfl)
  case' hk => skip
  try simp only [Act.put, List.setIfInBounds_toArray, List.set_cons_zero, List.set_cons_succ]
  apply rel_val (hrf := Tk_refl)
  case hw => rfl
  case hy => intro wS hN hF; skip; first | (go_simp; done) | (go_simp; with_reducible rfl)
  case' hk => skip
  try simp only [Act.put, List.setIfInBounds_toArray, List.set_cons_zero, List.set_cons_succ]
  refine rel_end ?_
  intro wT hO hF
  clear hF HMT
  have o6 : Only [] w wT := ((HOW.out.then O5.out).drew).then hO.only
  have HK := Lib.hid (known_any wT (HM.out.keep o6))
  have O6 := Lib.hid o6
  clear o6 hO n0 n1 n2 n3
  have hbb : (bits .and .i64 (f / 16) 1 == 1) = B := by rw [← HB.out]; exact (by simpa using fl_bits h0 h1 (i := 4) (by omega))
  go_wp2_with (go_at_call 14; refine HK.out.mono ?_; rintro e w2 ⟨rfl, O2⟩)
  go_ret
  exact ⟨rfl, O6.out.then O2⟩
theorem flags_any {w : World} (hM : MaxF w) (f i : Int) : Calls Tryd.prog 6 #[.int .i64 f, .int .i64 i] w fun e w' => e = .returned (.bool true) ∧ Only [] w w' := by
  by_cases h : f < 0 ∨ 31 < f ∨ i < 0 ∨ 4 < i
  · exact flags_known hM f i h
  · have h5 : i = 0 ∨ i = 1 ∨ i = 2 ∨ i = 3 ∨ i = 4 := by omega
    rcases h5 with rfl | rfl | rfl | rfl | rfl
    · exact flags_0 hM f (by omega) (by omega)
    · exact flags_1 hM f (by omega) (by omega)
    · exact flags_2 hM f (by omega) (by omega)
    · exact flags_3 hM f (by omega) (by omega)
    · exact flags_4 hM f (by omega) (by omega)
end Go.Proofs.YtkcnnbglmckmnaaDoor
