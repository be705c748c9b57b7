/-
  The reference's Encode.
-/
import Derived.Test.YthaodlegpjedoaaVIs4
import Derived.Test.YthaodlegpjedoaaVAdd
import Derived.Test.YthaodlegpjedoaaRefEnc
import Derived.Test.YthaodlegpjedoaaRel
import Derived.Test.YthaodlegpjedoaaRelOps
import Derived.Lib.ConvBytes
import Derived.Test.YthaodlegpjedoaaVEncI
import Derived.Test.YthaodlegpjedoaaVSame
namespace Go.Proofs.Ythaodlegpjedoaa
open Go.RowKit Go.Instr

/-- '[]byte(s)' of a text, as a slice that reads. -/
theorem conv_sl (s : List UInt8) (w : World) : ∃ w' c, (convert 9 29 (.string (St s))).run Try.prog w = .ok (.slice (some ⟨w.heap.size, 0, none⟩) s.length c) w' ∧ Sl w' (some ⟨w.heap.size, 0, none⟩) s.length (bvs s) ∧ Only [] w w' := by
  have hr := Lib.run_convert_string_bytes (P := Try.prog) w 9 29 5 (St s) Try.underlying9 Try.underlying29 Try.underlying5
  rw [St_size] at hr
  refine ⟨_, _, hr, ⟨by simp, fun _ => ⟨_, rfl, fun j u hu => ?_⟩⟩, ⟨rfl, rfl, rfl, by rw [Lib.bytesWorld_size]; omega, fun k hk _ => Lib.bytesWorld_at_old w _ (St s) k hk⟩⟩
  have hj : j < s.length := by have := (List.getElem?_eq_some_iff.1 hu).1; simpa using this
  rw [bvs_get s j hj] at hu
  rw [add_none, Nat.zero_add, Lib.bytesWorld_cell w 5 (St s) j (by rw [St_size]; exact hj), St_list, List.getD_eq_getElem?_getD, List.getElem?_eq_getElem hj, ← hu]
  rfl
theorem row_len (s : List UInt8) (h : s.length ≤ 100000) : (rowEnc s).length ≤ 9 + s.length := by
  unfold rowEnc
  rw [List.length_append]
  have := enc_len9 (v := s.length) (by omega)
  omega
/-- What Encode answers. -/
def EncR (w : World) (b : Bx) (e : Ending) (w' : World) : Prop :=
  (isB b = true ∧ ∃ A' c', e = .returned (.tuple #[.slice A' (encB b).length c', .int .i64 0]) ∧ Own w' 5 A' (encB b).length c' (bvs (encB b)) ∧ Only [] w w' ∧ ∀ k ∈ blks A', w.heap.size ≤ k) ∨
  (isB b = false ∧ e = .returned (.tuple #[.slice none 0 0, .int .i64 1]) ∧ Only [] w w')
theorem encMs_len : ∀ {l : List Mg}, (∀ m ∈ l, m.body.length ≤ 1200) → (encMs l).length ≤ l.length * 1236
  | [], _ => by simp [encMs]
  | m :: r, h => by
    have h1 := encM_len (m := m) (by have := h m List.mem_cons_self; omega)
    have h2 := encMs_len (l := r) (fun q hq => h q (List.mem_cons_of_mem _ hq))
    have h3 := h m List.mem_cons_self
    have e : encMs (m :: r) = encM m ++ encMs r := rfl
    rw [e, List.length_append, List.length_cons]
    omega
/-- The loop's relation. -/
def EncK (w : World) (P0 : List UInt8) (l : List Mg) (bc : Array Value) (k : Nat) (pv : Value) (wr : World) : Prop :=
  (∃ A c, pv = .slice A (P0 ++ encMs (l.take k)).length c ∧ Own wr 5 A (P0 ++ encMs (l.take k)).length c (bvs (P0 ++ encMs (l.take k))) ∧ ∀ y ∈ blks A, w.heap.size < y) ∧ Only [] w wr ∧ Bk wr w.heap.size 26 bc
set_option maxRecDepth 100000 in
set_option maxHeartbeats 8000000 in
theorem refEncode_any {S : Nat → Prop} {w : World} (b : Bx) {A : Option Addr} {c : Nat} (h : Ms S w A b.l.length b.l) (hn : b.l.length ≤ 140737488355328) (hnm : b.name.length ≤ 140737488355328) :
    Calls Try.prog 21 #[bxv b A c] w (EncR w b) := by
  have cI := fun (W : World) (o : Only [] w W) => refIs_any b (c := c) (h.keep o) hn hnm
  obtain ⟨s, v0, x, l⟩ := b
  obtain ⟨n, hl⟩ : ∃ n, l.length = n := ⟨_, rfl⟩
  simp only at h hn hnm
  simp only [bxv_eq hl] at cI ⊢
  rw [hl] at h hn
  obtain ⟨i0, hi, hz0, hz1, hz2⟩ := info_parts infoByte
  have hO1 : Only [] w (w.alloc (.cells #[.string (St s), .int .i64 v0, .int .i64 x, .slice A n c] 26)) := (Only.refl _ _).alloc _
  have HB0 := Lib.hid (Bk.new w 26 #[.string (St s), .int .i64 v0, .int .i64 x, .slice A n c])
  have HI := Lib.hid (cI _ hO1)
  have HO1 := Lib.hid hO1
  have HM := Lib.hid h
  have HL := Lib.hid hl
  obtain ⟨ns, hns⟩ : ∃ ns, s.length = ns := ⟨_, rfl⟩
  have HCV := Lib.hid (conv_sl s)
  rw [hns] at HCV
  obtain ⟨t, ht⟩ : ∃ t, St s = t := ⟨_, rfl⟩
  rw [ht] at HB0 HI HO1 HCV ⊢
  obtain ⟨c0, c1, c2, c3⟩ := bk_four HB0.out
  obtain ⟨p, hp⟩ : ∃ p, isB ⟨s, v0, x, l⟩ = p := ⟨_, rfl⟩
  rw [hp] at HI
  have HP := Lib.hid hp
  have HNS := Lib.hid hns
  clear cI h hl hns ht hp hO1
  go_enter Try.func21, Try.ntmps21
  cases p
  · go_wp2_with (go_at_call 15; go_must (refine HI.out.mono ?_); rintro e w2 ⟨rfl, O2⟩)
    go_ret2
    exact .inr ⟨HP.out, rfl, HO1.out.then O2⟩
  have hB := HP.out
  rw [isB_iff] at hB
  obtain ⟨hB1, hB2, hB3, hB4, hB5⟩ := hB
  simp only at hB1 hB2 hB3 hB4 hB5
  have hsl : ns ≤ 12 := by
    have := HNS.out
    unfold nameL at hB1
    simp only [Bool.and_eq_true, decide_eq_true_eq] at hB1
    omega
  rw [HL.out] at hB4
  obtain ⟨p1, hp1⟩ : ∃ p1, rowEnc s = p1 := ⟨_, rfl⟩
  obtain ⟨p2, hp2⟩ : ∃ p2, encs [v0, x, (n : Int)] = p2 := ⟨_, rfl⟩
  obtain ⟨m1, hm1⟩ : ∃ m1, p1.length = m1 := ⟨_, rfl⟩
  obtain ⟨m2, hm2⟩ : ∃ m2, p2.length = m2 := ⟨_, rfl⟩
  have HML : Hid (m1 + m2 ≤ 100) := by
    show _ ≤ _
    have r1 := row_len s (by rw [HNS.out]; omega)
    rw [hp1, hm1, HNS.out] at r1
    have r2 : m2 ≤ 27 := by
      rw [← hm2, ← hp2]
      unfold encs
      simp only [List.map_cons, List.map_nil, List.flatten_cons, List.flatten_nil, List.length_append, List.length_nil]
      have e1 := enc_len9 (clamp_le v0)
      have e2 := enc_len9 (clamp_le x)
      have e3 := enc_len9 (clamp_le (n : Int))
      omega
    omega
  have HB1 := Lib.hid (fun (W : World) (A2 : Option Addr) (c2 : Nat) (hS : Sl W A2 ns (bvs s)) => by
    have := refBytes_any A2 ns c2 s W hS (by omega)
    unfold Fresh at this
    rw [hp1, hm1] at this
    exact this)
  have HB2 := Lib.hid (fun (W : World) (k : Nat) (hS : Sl W (some ⟨k, 0, none⟩) 3 (ivs [v0, x, (n : Int)])) => by
    have := refNums_any (some ⟨k, 0, none⟩) 3 3 [v0, x, (n : Int)] W hS (by intro y hy; simp at hy; rcases hy with rfl | rfl | rfl <;> omega) (by omega)
    unfold Fresh at this
    rw [hp2, hm2] at this
    exact this)
  have HP1 := Lib.hid hp1
  have HP2 := Lib.hid hp2
  have HM12 : Hid ((p1 ++ p2).length = m1 + m2) := by show _ = _; rw [List.length_append, hm1, hm2]
  clear hB1 hp1 hp2 hm1 hm2
  go_wp2_with (go_at_call 15; go_must (refine HI.out.mono ?_); rintro e w2 ⟨rfl, O2⟩; replace c0 := O2.cellSome c0 (by simp); replace c1 := O2.cellSome c1 (by simp); replace c2 := O2.cellSome c2 (by simp); replace c3 := O2.cellSome c3 (by simp))
  apply region_writes (rs := []) (Ws := [13]) (by kernel_rfl) (by kernel_rfl)
  apply rel_val (hrf := Tk_refl)
  case hw => rfl
  case hy => intro wS hN hF; skip; first | (go_simp; done) | (go_simp; with_reducible rfl)
  case' hk => skip
  try simp only [Act.put, List.setIfInBounds_toArray, List.set_cons_zero, List.set_cons_succ]
  apply rel_val (hrf := Tk_refl)
  case hw => rfl
  case hy => intro wS hN hF; have hO := hN.pre (by kernel_rfl); have q0 := hO.cellSome c0 (by simp); first | (go_simp; done) | (go_simp; with_reducible rfl)
  case' hk => skip
  try simp only [Act.put, List.setIfInBounds_toArray, List.set_cons_zero, List.set_cons_succ]
  apply rel_fact (φ := fun v W => ∃ A' c', v = .slice A' ns c' ∧ Sl W A' ns (bvs s)) (x := 3) (hs := lasts0 (by kernel_rfl) (fun v W1 W2 h ho => by obtain ⟨A', c', h1, h2⟩ := h; exact ⟨A', c', h1, h2.keep ho⟩))
  case hw => rfl
  case hy =>
    intro wS hN hF
    obtain ⟨w', c', hr, hs, ho⟩ := HCV.out wS
    refine gives_value (u := .slice (some ⟨wS.heap.size, 0, none⟩) ns c') (w' := w') ?_ ⟨_, c', rfl, hs⟩ (Tk_only ho)
    go_simp
  case' hk => intro v2
  try simp only [Act.put, List.setIfInBounds_toArray, List.set_cons_zero, List.set_cons_succ]
  apply rel_fact_call (φ := fun v W => ∃ A' c', v = .slice A' m1 c' ∧ Own W 5 A' m1 c' (bvs p1) ∧ ∀ k ∈ blks A', w2.heap.size ≤ k) (x := 13) (hs := lasts0 (by kernel_rfl) (fun v W1 W2 h ho => by obtain ⟨A', c', h1, h2, h3⟩ := h; exact ⟨A', c', h1, h2.keep ho, h3⟩))
  case hw => rfl
  case hc =>
    intro wS hN hF
    have hO := hN.pre (by kernel_rfl)
    have hz := hO.size
    have hz : w2.heap.size ≤ wS.heap.size := by simpa using hz
    obtain ⟨A2, c2, rfl, hS⟩ := hF.at_ 0 rfl (by kernel_rfl) (by kernel_rfl)
    refine ⟨43, #[.slice A2 ns c2], ?_, ?_⟩
    · go_simp
    · exact (HB1.out wS A2 c2 hS).mono fun e w' he => by
        obtain ⟨A', c', e1, e2, e3, e4⟩ := he
        exact ⟨_, e1, ⟨A', c', rfl, e2, fun k hk => Nat.le_trans hz (e4 k hk)⟩, Tk_only e3⟩
  case' hk => intro v3
  try simp only [Act.put, List.setIfInBounds_toArray, List.set_cons_zero, List.set_cons_succ]
  apply rel_val (hrf := Tk_refl)
  case hw => rfl
  case hy => intro wS hN hF; skip; first | (go_simp; done) | (go_simp; with_reducible rfl)
  case' hk => skip
  try simp only [Act.put, List.setIfInBounds_toArray, List.set_cons_zero, List.set_cons_succ]
  apply rel_val (hrf := Tk_refl)
  case hw => rfl
  case hy => intro wS hN hF; have hO := hN.pre (by kernel_rfl); have q0 := hO.cellSome c1 (by simp); first | (go_simp; done) | (go_simp; with_reducible rfl)
  case' hk => skip
  try simp only [Act.put, List.setIfInBounds_toArray, List.set_cons_zero, List.set_cons_succ]
  apply rel_val (hrf := Tk_refl)
  case hw => rfl
  case hy => intro wS hN hF; skip; first | (go_simp; done) | (go_simp; with_reducible rfl)
  case' hk => skip
  try simp only [Act.put, List.setIfInBounds_toArray, List.set_cons_zero, List.set_cons_succ]
  apply rel_val (hrf := Tk_refl)
  case hw => rfl
  case hy => intro wS hN hF; have hO := hN.pre (by kernel_rfl); have q0 := hO.cellSome c2 (by simp); first | (go_simp; done) | (go_simp; with_reducible rfl)
  case' hk => skip
  try simp only [Act.put, List.setIfInBounds_toArray, List.set_cons_zero, List.set_cons_succ]
  apply rel_val (hrf := Tk_refl)
  case hw => rfl
  case hy => intro wS hN hF; skip; first | (go_simp; done) | (go_simp; with_reducible rfl)
  case' hk => skip
  try simp only [Act.put, List.setIfInBounds_toArray, List.set_cons_zero, List.set_cons_succ]
  apply rel_val (hrf := Tk_refl)
  case hw => rfl
  case hy => intro wS hN hF; have hO := hN.pre (by kernel_rfl); have q0 := hO.cellSome c3 (by simp); first | (go_simp; done) | (go_simp; with_reducible rfl)
  case' hk => skip
  try simp only [Act.put, List.setIfInBounds_toArray, List.set_cons_zero, List.set_cons_succ]
  apply rel_val (hrf := Tk_refl)
  case hw => rfl
  case hy => intro wS hN hF; skip; first | (go_simp; done) | (go_simp; with_reducible rfl)
  case' hk => skip
  try simp only [Act.put, List.setIfInBounds_toArray, List.set_cons_zero, List.set_cons_succ]
  apply rel_fact (φ := fun v W => ∃ k, v = .slice (some ⟨k, 0, none⟩) 3 3 ∧ Bk W k 3 #[.int .i64 v0, .int .i64 x, .int .i64 (n : Int)]) (x := 12) (hs := lasts0 (by kernel_rfl) (fun v W1 W2 h ho => by obtain ⟨k, h1, h2⟩ := h; exact ⟨k, h1, h2.only ho (by simp)⟩))
  case hw => rfl
  case hy =>
    intro wS hN hF
    refine gives_value (u := .slice (some ⟨wS.heap.size, 0, none⟩) 3 3) (w' := wS.alloc (.cells #[.int .i64 v0, .int .i64 x, .int .i64 (n : Int)] 3)) ?_ ⟨_, rfl, Bk.new _ _ _⟩ (Tk_only ((Only.refl [] _).alloc _))
    go_simp
  case' hk => intro v11
  try simp only [Act.put, List.setIfInBounds_toArray, List.set_cons_zero, List.set_cons_succ]
  apply rel_fact_call (φ := fun v W => ∃ A' c', v = .slice A' m2 c' ∧ Own W 5 A' m2 c' (bvs p2) ∧ ∀ k ∈ blks A', w2.heap.size ≤ k) (x := 13) (hs := lasts0 (by kernel_rfl) (fun v W1 W2 h ho => by obtain ⟨A', c', h1, h2, h3⟩ := h; exact ⟨A', c', h1, h2.keep ho, h3⟩))
  case hw => rfl
  case hc =>
    intro wS hN hF
    have hO := hN.pre (by kernel_rfl)
    have hz := hO.size
    have hz : w2.heap.size ≤ wS.heap.size := by simpa using hz
    obtain ⟨k, rfl, hB⟩ := hF.at_ 0 rfl (by kernel_rfl) (by kernel_rfl)
    refine ⟨44, #[.slice (some ⟨k, 0, none⟩) 3 3], ?_, ?_⟩
    · go_simp
    · exact (HB2.out wS k (Sl.of_bk hB)).mono fun e w' he => by
        obtain ⟨A', c', e1, e2, e3, e4⟩ := he
        exact ⟨_, e1, ⟨A', c', rfl, e2, fun k hk => Nat.le_trans hz (e4 k hk)⟩, Tk_only e3⟩
  case' hk => intro v12
  try simp only [Act.put, List.setIfInBounds_toArray, List.set_cons_zero, List.set_cons_succ]
  apply rel_fact (φ := fun v W => ∃ A' c', v = .slice A' (m1 + m2) c' ∧ Own W 5 A' (m1 + m2) c' (bvs (p1 ++ p2)) ∧ ∀ k ∈ blks A', w2.heap.size ≤ k) (x := 14) (hs := lasts0 (by kernel_rfl) (fun v W1 W2 h ho => by obtain ⟨A', c', h1, h2, h3⟩ := h; exact ⟨A', c', h1, h2.keep ho, h3⟩))
  case hw => rfl
  case hy =>
    intro wS hN hF
    have hO := hN.pre (by kernel_rfl)
    have hz := hO.size
    have hz : w2.heap.size ≤ wS.heap.size := by simpa using hz
    obtain ⟨A5, c5, rfl, hV5, _⟩ := hF.at_ 0 rfl (by kernel_rfl) (by kernel_rfl)
    obtain ⟨A3, c3, rfl, hV3, hf3⟩ := hF.at_ 2 rfl (by kernel_rfl) (by kernel_rfl)
    have hml := HML.out
    exact gives_append_sl (.tmp 13) (.tmp 22) 29 rfl 5 i0 (.int .u8 0) 1 Try.underlying29 hi hz0 hz1 hz2 rfl A3 m1 c3 (bvs p1) rfl hV3 A5 m2 c5 (bvs p2) rfl hV5.sl (bvs_one p2) (by unfold maxLen; omega) (by omega) fun A' c' w' h1 h2 h3 => ⟨⟨A', c', rfl, by rw [bvs_append]; exact h1, fun y hy => by
        rcases h3 y hy with h | h
        · exact hf3 y h
        · omega⟩, Tk_writes rfl h2 (fun y hy => .inr (by have := hf3 y hy; simpa using this))⟩
  case' hk => intro v13
  try simp only [Act.put, List.setIfInBounds_toArray, List.set_cons_zero, List.set_cons_succ]
  apply rel_fact (φ := fun v W => ∃ A' c', v = .slice A' (m1 + m2) c' ∧ Own W 5 A' (m1 + m2) c' (bvs (p1 ++ p2)) ∧ ∀ k ∈ blks A', w2.heap.size ≤ k) (x := 9999) (hs := lasts0 (by kernel_rfl) (fun v W1 W2 h ho => by obtain ⟨A', c', h1, h2, h3⟩ := h; exact ⟨A', c', h1, h2.keep ho, h3⟩))
  case hw => rfl
  case hy =>
    intro wS hN hF
    have h := hF.at_ 0 rfl (by kernel_rfl) (by kernel_rfl)
    refine gives_value (u := v13) (w' := wS) ?_ h (Tk_refl _)
    go_simp
  case' hk => intro v14
  try simp only [Act.put, List.setIfInBounds_toArray, List.set_cons_zero, List.set_cons_succ]
  refine rel_end ?_
  intro wS hO3 hF
  obtain ⟨A4, c4, rfl, HV, hf4⟩ := facts_at hF 0 rfl
  have hO3' : Only [] w2 wS := ((Only.refl [] w2).drew).then hO3.only
  have hw2 : w.heap.size < w2.heap.size := block_lt_of_cell c0
  obtain ⟨P0, hP0⟩ : ∃ P0, p1 ++ p2 = P0 := ⟨_, rfl⟩
  have hm12 := HM12.out
  rw [hP0] at hm12
  have HENC : Hid (encB ⟨s, v0, x, l⟩ = P0 ++ encMs l) := by
    show _ = _
    rw [← hP0, ← HP1.out, ← HP2.out]
    unfold encB
    simp only
    rw [HL.out]
  have hml := HML.out
  rw [hP0] at HV
  have H0 : Hid (EncK w P0 l #[.string t, .int .i64 v0, .int .i64 x, .slice A n c] 0 (.slice A4 (m1 + m2) c4) wS) := by
    refine ⟨⟨A4, c4, ?_, ?_, fun y hy => by have := hf4 y hy; omega⟩, (HO1.out.then O2).then hO3', (HB0.out.only O2 (by simp)).only hO3' (by simp)⟩
    · simp [encMs, hm12]
    · have e : P0 ++ encMs (l.take 0) = P0 := by simp [encMs]
      rw [e, hm12]
      exact HV
  have HBD : Hid (∀ m ∈ l, m.body.length ≤ 1200) := fun m hm => (rises_at hB5 hm).2.2.2
  have HBI : Hid (∀ m ∈ l, -9223372036854775808 ≤ m.uid ∧ m.uid ≤ 9223372036854775807 ∧ -9223372036854775808 ≤ m.flags ∧ m.flags ≤ 9223372036854775807 ∧ -9223372036854775808 ≤ m.date ∧ m.date ≤ 9223372036854775807) := fun m hm => by have := rises_at hB5 hm; omega
  have HLP : Hid (P0.length ≤ 100) := by show _ ≤ _; omega
  generalize m1 + m2 = mm at *
  clear hF HV hf4 hO3 hO3' hw2 HP1 HP2 HM12 hm12 hml HML hP0 hB5 O2 c0 c1 c2 c3 HB1 HB2 HCV
  go_wp2_with fail
  go_loopw [4, 5] (fun pv iv wr => ∃ k : Nat, iv = .int .i64 (k : Int) ∧ k ≤ n ∧ Hid (EncK w P0 l #[.string t, .int .i64 v0, .int .i64 x, .slice A n c] k pv wr)) (fun _ iv _ => n - (intOf iv).toNat)
  case atStart => exact ⟨0, rfl, Nat.zero_le _, H0.out⟩
  case round =>
    obtain ⟨k, rfl, hk, HK⟩ := hrel
    obtain ⟨⟨A4, c4, rfl, HV, hf4⟩, O, BB⟩ := HK.out
    obtain ⟨c0, c1, c2, c3⟩ := bk_four BB
    by_cases hlt : k < n
    · have hlt' : (k : Int) < (n : Int) := by omega
      have hkl : k < l.length := by rw [HL.out]; exact hlt
      obtain ⟨ad, Ab, cb, rfl, _, hm⟩ := (HM.out.lt.keep O).at_ hlt hkl
      have HSU : Hid (P0 ++ encMs (l.take (k + 1)) = P0 ++ encMs (l.take k) ++ encs [l[k].uid, l[k].flags, l[k].date] ++ rowEnc l[k].body) := by
        show _ = _
        rw [encMs_succ hkl]
        unfold encM
        simp [List.append_assoc]
      have hbd := HBD.out l[k] (List.getElem_mem hkl)
      have hbi := HBI.out l[k] (List.getElem_mem hkl)
      have hpl : (P0 ++ encMs (l.take k)).length ≤ 100000 := by
        rw [List.length_append]
        have h1 := encMs_len (l := l.take k) (fun m hm => HBD.out m (List.mem_of_mem_take hm))
        rw [List.length_take] at h1
        have h2 := HLP.out
        omega
      generalize l[k] = mg at hm HSU hbd hbi
      obtain ⟨u, f, d, y⟩ := mg
      obtain ⟨m0, m1, m2, m3, hsl, hst⟩ := hm
      simp only at m0 m1 m2 m3 hsl hst HSU hbd hbi
      obtain ⟨P, hP⟩ : ∃ P, P0 ++ encMs (l.take k) = P := ⟨_, rfl⟩
      rw [hP] at HV HSU hpl
      rw [hP]
      obtain ⟨mP, hmP⟩ : ∃ mP, P.length = mP := ⟨_, rfl⟩
      rw [hmP] at HV hpl
      rw [hmP]
      obtain ⟨z, hz⟩ : ∃ z, y.length = z := ⟨_, rfl⟩
      rw [hz] at m3 hsl hst hbd
      obtain ⟨p2, hp2⟩ : ∃ p2, encs [u, f, d] = p2 := ⟨_, rfl⟩
      obtain ⟨p3, hp3⟩ : ∃ p3, rowEnc y = p3 := ⟨_, rfl⟩
      rw [hp2, hp3] at HSU
      obtain ⟨q2, hq2⟩ : ∃ q, p2.length = q := ⟨_, rfl⟩
      obtain ⟨q3, hq3⟩ : ∃ q, p3.length = q := ⟨_, rfl⟩
      have r2 : q2 ≤ 27 := by
        rw [← hq2, ← hp2]
        unfold encs
        simp only [List.map_cons, List.map_nil, List.flatten_cons, List.flatten_nil, List.length_append, List.length_nil]
        have e1 := enc_len9 (clamp_le u)
        have e2 := enc_len9 (clamp_le f)
        have e3 := enc_len9 (clamp_le d)
        omega
      have r3 : q3 ≤ 1300 := by
        have := row_len y (by omega)
        rw [hp3, hq3] at this
        omega
      have HE2 := Lib.hid (fun (W : World) (k2 : Nat) (hS : Sl W (some ⟨k2, 0, none⟩) 3 (ivs [u, f, d])) => by
        have := refNums_any (some ⟨k2, 0, none⟩) 3 3 [u, f, d] W hS (by intro y hy; simp at hy; rcases hy with rfl | rfl | rfl <;> omega) (by omega)
        unfold Fresh at this
        rw [hp2, hq2] at this
        exact this)
      have HE3 := Lib.hid (fun (W : World) (A2 : Option Addr) (c2 : Nat) (hS : Sl W A2 z (bvs y)) => by
        have := refBytes_any A2 z c2 y W hS (by omega)
        unfold Fresh at this
        rw [hp3, hq3] at this
        exact this)
      have hO6 : Only [] wr (wr.alloc (.cells #[.int .i64 u, .int .i64 f, .int .i64 d, .slice Ab z cb] 62)) := (Only.refl [] wr).alloc _
      have B6 := Bk.new wr 62 #[.int .i64 u, .int .i64 f, .int .i64 d, .slice Ab z cb]
      have hne : wr.heap.size ∉ blks A4 := fun hh => by have := HV.lt hh; omega
      have HSB : Hid (∀ W, Only (blks A4) (wr.alloc (.cells #[.int .i64 u, .int .i64 f, .int .i64 d, .slice Ab z cb] 62)) W → Sl W Ab z (bvs y)) := fun W o => (hsl.keep hO6).only' o (fun hp a e hh => by have h1 := (hst hp a e).2; have h2 := hf4 _ hh; omega)
      have HV6 := Lib.hid (HV.keep hO6)
      have HOO := Lib.hid O
      have HBB := Lib.hid BB
      have HF4 := Lib.hid hf4
      have HLEN : Hid (mP + q2 + q3 = (P ++ p2 ++ p3).length) := by show _ = _; rw [List.length_append, List.length_append, hmP, hq2, hq3]
      have hg0 : w.heap.size < wr.heap.size := BB.lt
      have HMM : Hid (n - (intOf (.int .i64 ((k : Int) + 1))).toNat < n - (intOf (.int .i64 (k : Int))).toNat) := by
        show _ < _
        simp [intOf]
        omega
      have hk1 : k + 1 ≤ n := by omega
      clear HV O BB hsl hst hP hmP hz hp2 hp3 hq2 hq3 hbi hf4 HK
      go_wp2_with fail
      obtain ⟨n0, n1, n2, n3⟩ := bk_four B6
      have hg6 := B6.lt
      generalize wr.alloc (.cells #[.int .i64 u, .int .i64 f, .int .i64 d, .slice Ab z cb] 62) = w6 at *
      generalize wr.heap.size = g6 at *
      apply region_inv (EncI w6 A4 c4 mP q2 q3 P p2 p3 #[.int .i64 u, .int .i64 f, .int .i64 d]) (by kernel_rfl) (by kernel_rfl) (fun vs => EncI.start HV6.out vs)
      intro vs
      apply inv_val
      case hw => rfl
      case hI => intro L wS hI; exact hI.pure (by decide)
      case hy => intro L wS hI; skip; first | (go_simp; done) | (go_simp; with_reducible rfl)
      case' hk => skip
      try simp only [Act.put, List.setIfInBounds_toArray, List.set_cons_zero, List.set_cons_succ]
      apply inv_val
      case hw => rfl
      case hI => intro L wS hI; exact hI.pure (by decide)
      case hy => intro L wS hI; skip; first | (go_simp; done) | (go_simp; with_reducible rfl)
      case' hk => skip
      try simp only [Act.put, List.setIfInBounds_toArray, List.set_cons_zero, List.set_cons_succ]
      apply inv_val
      case hw => rfl
      case hI => intro L wS hI; exact hI.pure (by decide)
      case hy => intro L wS hI; have q0 := hI.1.1.cellSome n0 hne; first | (go_simp; done) | (go_simp; with_reducible rfl)
      case' hk => skip
      try simp only [Act.put, List.setIfInBounds_toArray, List.set_cons_zero, List.set_cons_succ]
      apply inv_val
      case hw => rfl
      case hI => intro L wS hI; exact hI.pure (by decide)
      case hy => intro L wS hI; skip; first | (go_simp; done) | (go_simp; with_reducible rfl)
      case' hk => skip
      try simp only [Act.put, List.setIfInBounds_toArray, List.set_cons_zero, List.set_cons_succ]
      apply inv_val
      case hw => rfl
      case hI => intro L wS hI; exact hI.pure (by decide)
      case hy => intro L wS hI; have q0 := hI.1.1.cellSome n1 hne; first | (go_simp; done) | (go_simp; with_reducible rfl)
      case' hk => skip
      try simp only [Act.put, List.setIfInBounds_toArray, List.set_cons_zero, List.set_cons_succ]
      apply inv_val
      case hw => rfl
      case hI => intro L wS hI; exact hI.pure (by decide)
      case hy => intro L wS hI; skip; first | (go_simp; done) | (go_simp; with_reducible rfl)
      case' hk => skip
      try simp only [Act.put, List.setIfInBounds_toArray, List.set_cons_zero, List.set_cons_succ]
      apply inv_val
      case hw => rfl
      case hI => intro L wS hI; exact hI.pure (by decide)
      case hy => intro L wS hI; have q0 := hI.1.1.cellSome n2 hne; first | (go_simp; done) | (go_simp; with_reducible rfl)
      case' hk => skip
      try simp only [Act.put, List.setIfInBounds_toArray, List.set_cons_zero, List.set_cons_succ]
      apply inv_op
      case hw => rfl
      case hy =>
        intro L wS hI hL hw
        refine gives_value (u := .slice (some ⟨wS.heap.size, 0, none⟩) 3 3) (w' := wS.alloc (.cells #[.int .i64 u, .int .i64 f, .int .i64 d] 3)) ?_ (hI.s7 hL) trivial
        first | (go_simp; done) | (go_simp; with_reducible rfl)
      case' hk => skip
      try simp only [Act.put, List.setIfInBounds_toArray, List.set_cons_zero, List.set_cons_succ]
      apply inv_op
      case hw => rfl
      case hy =>
        intro L wS hI hL hw
        have n13 := hI.no13 (.inr (.inr (.inl hL)))
        obtain ⟨k2, ev, _, hB⟩ := (hI.2.2.1 n13).1 (hw 7 (by kernel_rfl))
        refine gives_call (f := 44) (args := #[.slice (some ⟨k2, 0, none⟩) 3 3]) ?_ ?_
        · rw [ev]
          first | (go_simp; done) | (go_simp; with_reducible rfl)
        · exact (HE2.out wS k2 (Sl.of_bk hB)).mono fun e w' he => by
            obtain ⟨A', c', e1, e2, e3, e4⟩ := he
            exact ⟨_, e1, hI.s8 hL (hw 7 (by kernel_rfl)) e3 ⟨A', c', rfl, e2, e4⟩, trivial⟩
      case' hk => skip
      try simp only [Act.put, List.setIfInBounds_toArray, List.set_cons_zero, List.set_cons_succ]
      apply inv_op
      case hw => rfl
      case hy =>
        intro L wS hI hL hw
        have n13 := hI.no13 (.inl hL)
        obtain ⟨A2, c2, ev, hV2, _⟩ := (hI.2.2.1 n13).2.1 (hw 8 (by kernel_rfl))
        have hown := hI.2.2.2.1 hL
        rw [ev]
        exact gives_append_sl (.tmp 36) (.tmp 44) 29 rfl 5 i0 (.int .u8 0) 1 Try.underlying29 hi hz0 hz1 hz2 rfl A4 mP c4 (bvs P) rfl hown A2 q2 c2 (bvs p2) rfl hV2.sl (bvs_one p2) (by unfold maxLen; omega) (by omega) fun A' c' w' h1 h2 h3 => ⟨hI.s9 hL (hw 8 (by kernel_rfl)) h2 ⟨A', c', rfl, by rw [bvs_append]; exact h1, h3⟩, trivial⟩
      case' hk => skip
      try simp only [Act.put, List.setIfInBounds_toArray, List.set_cons_zero, List.set_cons_succ]
      apply inv_val
      case hw => rfl
      case hI => intro L wS hI; exact hI.pure (by decide)
      case hy => intro L wS hI; skip; first | (go_simp; done) | (go_simp; with_reducible rfl)
      case' hk => skip
      try simp only [Act.put, List.setIfInBounds_toArray, List.set_cons_zero, List.set_cons_succ]
      apply inv_val
      case hw => rfl
      case hI => intro L wS hI; exact hI.pure (by decide)
      case hy => intro L wS hI; have q0 := hI.1.1.cellSome n3 hne; first | (go_simp; done) | (go_simp; with_reducible rfl)
      case' hk => skip
      try simp only [Act.put, List.setIfInBounds_toArray, List.set_cons_zero, List.set_cons_succ]
      apply inv_op
      case hw => rfl
      case hy =>
        intro L wS hI hL hw
        refine gives_call (f := 43) (args := #[.slice Ab z cb]) ?_ ?_
        · first | (go_simp; done) | (go_simp; with_reducible rfl)
        · exact (HE3.out wS Ab cb (HSB.out wS hI.1.1)).mono fun e w' he => by
            obtain ⟨A', c', e1, e2, e3, e4⟩ := he
            exact ⟨_, e1, hI.s12 hL e3 ⟨A', c', rfl, e2, e4⟩, trivial⟩
      case' hk => skip
      try simp only [Act.put, List.setIfInBounds_toArray, List.set_cons_zero, List.set_cons_succ]
      apply inv_op
      case hw => rfl
      case hy =>
        intro L wS hI hL hw
        have h9 := hw 9 (by kernel_rfl)
        have h12 := hw 12 (by kernel_rfl)
        obtain ⟨A9, c9, ev9, hV9, hf9⟩ := hI.2.2.2.2.1 h9 hL
        obtain ⟨A2, c2, ev, hV2, _⟩ := (hI.2.2.1 hL).2.2 h12
        have h14 : L 14 = false := by
          cases e : L 14 with
          | false => rfl
          | true => rw [hI.2.1.2.2.2 e] at hL; cases hL
        rw [ev9, ev]
        exact gives_append_sl (.tmp 45) (.tmp 48) 29 rfl 5 i0 (.int .u8 0) 1 Try.underlying29 hi hz0 hz1 hz2 rfl A9 (mP + q2) c9 (bvs (P ++ p2)) rfl hV9 A2 q3 c2 (bvs p3) rfl hV2.sl (bvs_one p3) (by unfold maxLen; omega) (by omega) fun A' c' w' h1 h2 h3 => ⟨hI.s13 h9 h12 h14 h2 hf9 ⟨A', c', rfl, by rw [bvs_append]; exact h1, fun y hy => by
            rcases h3 y hy with hh | hh
            · exact hf9 y hh
            · have hle := hI.le
              exact .inr (by omega)⟩, trivial⟩
      case' hk => skip
      try simp only [Act.put, List.setIfInBounds_toArray, List.set_cons_zero, List.set_cons_succ]
      apply inv_op
      case hw => rfl
      case hy =>
        intro L wS hI hL hw
        have h13 := hw 13 (by kernel_rfl)
        refine gives_value (u := vs 13) (w' := wS) ?_ (hI.s14 h13) trivial
        first | (go_simp; done) | (go_simp; with_reducible rfl)
      case' hk => skip
      try simp only [Act.put, List.setIfInBounds_toArray, List.set_cons_zero, List.set_cons_succ]
      refine inv_end ?_
      intro L w7 hall hI
      obtain ⟨⟨hO7, _⟩, _, _, _, _, h6, h7⟩ := hI
      obtain ⟨A7, c7, ev7, hV7, hf7⟩ := h6 (hall 13 (by decide))
      have ev14 := h7 (hall 14 (by decide))
      rw [ev7] at ev14
      rw [ev7, ev14]
      clear h6 h7 hall ev7 ev14
      have HKN : Hid (EncK w P0 l #[.string t, .int .i64 v0, .int .i64 x, .slice (some ad) n c] (k + 1) (.slice A7 (mP + q2 + q3) c7) w7) := by
        refine ⟨⟨A7, c7, by rw [HSU.out, ← HLEN.out], by rw [HSU.out, ← HLEN.out]; exact hV7, fun y hy => ?_⟩, (HOO.out.then hO6).trans hO7 (fun y hy => .inr (Nat.le_of_lt (HF4.out y hy))), (HBB.out.only hO6 (by simp)).only hO7 (fun hh => by have := HF4.out _ hh; omega)⟩
        rcases hf7 y hy with hh | hh
        · exact HF4.out y hh
        · omega
      clear hV7 hf7 hO7
      go_wp2_with fail
      exact ⟨⟨k + 1, by simp, hk1, HKN.out⟩, HMM.out⟩
    · obtain rfl : k = n := by omega
      have hall : l.take k = l := List.take_of_length_le (by rw [HL.out]; exact Nat.le_refl _)
      rw [hall, ← HENC.out] at HV
      rw [hall, ← HENC.out]
      have HO := Lib.hid O
      have HVV := Lib.hid HV
      have HF := Lib.hid hf4
      clear HK HV O BB
      go_wp2_with fail
      go_ret2
      exact .inl ⟨HP.out, A4, c4, rfl, HVV.out, HO.out, fun y hy => Nat.le_of_lt (HF.out y hy)⟩
end Go.Proofs.Ythaodlegpjedoaa
