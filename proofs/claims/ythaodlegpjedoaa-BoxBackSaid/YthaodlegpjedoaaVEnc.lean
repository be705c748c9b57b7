/-
  box.Encode, over octet's Writer.
-/
import Derived.Test.YthaodlegpjedoaaVRefEnc
import Derived.Test.YthaodlegpjedoaaWriter2
namespace Go.Proofs.Ythaodlegpjedoaa
open Go.RowKit Go.Instr

theorem rows_oneP {S : Nat → Prop} {w : World} {g : Nat} {t : TypeId} {A : Option Addr} {c : Nat} {l : List UInt8} (h : Bk w g t #[.slice A l.length c]) (hs : Sl w A l.length (bvs l)) (hg : S g) (hA : 0 < l.length → ∀ ad, A = some ad → S ad.block) : RwS S w (some ⟨g, 0, none⟩) 1 [l] :=
  ⟨rfl, _, Sl.of_bk h, fun _ ad e => by injection e with e; subst e; exact hg, fun i l' hi => by
    match i, hi with
    | 0, hi => simp at hi; subst hi; exact ⟨A, c, by simp, hs, hA⟩⟩
theorem conv_sl2 (s : List UInt8) (w : World) : ∃ w' c, (convert 9 29 (.string (St s))).run Try.prog w = .ok (.slice (some ⟨w.heap.size, 0, none⟩) s.length c) w' ∧ Sl w' (some ⟨w.heap.size, 0, none⟩) s.length (bvs s) ∧ Only [] w w' ∧ w.heap.size < w'.heap.size := by
  have hr := Lib.run_convert_string_bytes (P := Try.prog) w 9 29 5 (St s) Try.underlying9 Try.underlying29 Try.underlying5
  rw [St_size] at hr
  refine ⟨_, _, hr, ⟨by simp, fun _ => ⟨_, rfl, fun j u hu => ?_⟩⟩, ⟨rfl, rfl, rfl, by rw [Lib.bytesWorld_size]; omega, fun k hk _ => Lib.bytesWorld_at_old w _ (St s) k hk⟩, by rw [Lib.bytesWorld_size]; omega⟩
  have hj : j < s.length := by have := (List.getElem?_eq_some_iff.1 hu).1; simpa using this
  rw [bvs_get s j hj] at hu
  rw [add_none, Nat.zero_add, Lib.bytesWorld_cell w 5 (St s) j (by rw [St_size]; exact hj), St_list, List.getD_eq_getElem?_getD, List.getElem?_eq_getElem hj, ← hu]
  rfl
/-- The Writer at g has P; all of its blocks are of the kind S. -/
def WJ (S : Nat → Prop) (W : World) (g : Nat) (P : List UInt8) : Prop := ∃ A c, Wr W g A c P ∧ ∀ y ∈ g :: blks A, S y
/-- What such a call does. -/
def WJA (S : Nat → Prop) (W : World) (g : Nat) (P : List UInt8) (e : Ending) (W' : World) : Prop := e = .returned (.tuple #[]) ∧ WJ S W' g P ∧ ∃ rs, Only rs W W' ∧ ∀ y ∈ rs, S y ∧ y < W.heap.size
theorem WJ.keep {S : Nat → Prop} {W W' : World} {g : Nat} {P : List UInt8} (h : WJ S W g P) (o : Only [] W W') : WJ S W' g P := by
  obtain ⟨A, c, h1, h2⟩ := h
  exact ⟨A, c, h1.keep o, h2⟩
theorem WJ.mono {S S' : Nat → Prop} {W : World} {g : Nat} {P : List UInt8} (h : WJ S W g P) (hS : ∀ y, y < W.heap.size → S y → S' y) : WJ S' W g P := by
  obtain ⟨A, c, h1, h2⟩ := h
  refine ⟨A, c, h1, fun y hy => hS y ?_ (h2 y hy)⟩
  rcases List.mem_cons.1 hy with rfl | h
  · exact h1.1.lt
  · exact h1.2.lt h
theorem WJA.of {S : Nat → Prop} {W : World} {g : Nat} {A : Option Addr} {c : Nat} {P P0 : List UInt8} (h1 : Wr W g A c P0) (h2 : ∀ y ∈ g :: blks A, S y) (hS : ∀ y, W.heap.size ≤ y → S y) {e : Ending} {W' : World} (h : Laid W g A P e W') : WJA S W g P e W' := by
  obtain ⟨he, A', c', w1, o1, f1⟩ := h
  refine ⟨he, ⟨A', c', w1, fun y hy => ?_⟩, _, o1, fun y hy => ⟨h2 y hy, ?_⟩⟩
  · rcases List.mem_cons.1 hy with rfl | h
    · exact h2 _ List.mem_cons_self
    · rcases f1 y h with h | h
      · exact h2 y (List.mem_cons_of_mem _ h)
      · exact hS y h
  · rcases List.mem_cons.1 hy with rfl | h
    · exact h1.1.lt
    · exact h1.2.lt h
theorem WJ.nums {S : Nat → Prop} {W : World} {g : Nat} {P : List UInt8} (h : WJ S W g P) (hS : ∀ y, W.heap.size ≤ y → S y) (a b d : Int) (hf : Fits [a, b, d]) (hP : P.length ≤ 1000000) :
    Calls Try.prog 41 #[.pointer (some ⟨g, 0, none⟩), .slice (some ⟨W.heap.size, 0, none⟩) 3 3] (W.alloc (.cells #[.int .i64 a, .int .i64 b, .int .i64 d] 3)) fun e w' => ∃ w1, Only [] W w1 ∧ WJA S w1 g (P ++ encs [a, b, d]) e w' := by
  obtain ⟨A, c, h1, h2⟩ := h
  have ho : Only [] W (W.alloc (.cells #[.int .i64 a, .int .i64 b, .int .i64 d] 3)) := (Only.refl [] W).alloc _
  refine (wnums_any g A c P (some ⟨W.heap.size, 0, none⟩) 3 3 [a, b, d] _ (h1.keep ho) (Sl.of_bk (Bk.new W _ _)) hf (fun _ ad e hh => ?_) (by omega) (by omega)).mono fun e w' hl => ⟨_, ho, WJA.of (h1.keep ho) h2 (fun y hy => hS y (Nat.le_trans ho.size hy)) hl⟩
  injection e with e
  subst e
  rcases List.mem_cons.1 hh with h | h
  · have := h1.1.lt
    simp only at h
    omega
  · have := h1.2.lt h
    simp only at this
    omega
theorem WJ.bytes {S : Nat → Prop} {W : World} {g : Nat} {P : List UInt8} (h : WJ S W g P) (hS : ∀ y, W.heap.size ≤ y → S y) (Ab : Option Addr) (z cb : Nat) (y : List UInt8) (hs : Sl W Ab z (bvs y)) (hb : 0 < z → ∀ ad, Ab = some ad → ¬ S ad.block) (hP : P.length ≤ 1000000) (hz : z ≤ 100000) :
    Calls Try.prog 40 #[.pointer (some ⟨g, 0, none⟩), .slice (some ⟨W.heap.size, 0, none⟩) 1 1] (W.alloc (.cells #[.slice Ab z cb] 29)) fun e w' => ∃ w1, Only [] W w1 ∧ WJA S w1 g (P ++ rowEnc y) e w' := by
  obtain ⟨A, c, h1, h2⟩ := h
  have hy : y.length = z := by simpa using hs.len
  subst hy
  have ho : Only [] W (W.alloc (.cells #[.slice Ab y.length cb] 29)) := (Only.refl [] W).alloc _
  have hr := wbytes_any g A c P (some ⟨W.heap.size, 0, none⟩) 1 1 [y] _ (fun k => k ∉ g :: blks A) (h1.keep ho) (rows_oneP (c := cb) (Bk.new W 29 _) (hs.keep ho) (fun hh => ?_) (fun hp ad e hh => hb hp ad e (h2 _ hh))) (fun k hk => hk) (by omega) ?_
  · have e : rowsEnc [y] = rowEnc y := by simp [rowsEnc]
    rw [e] at hr
    exact hr.mono fun e w' hl => ⟨_, ho, WJA.of (h1.keep ho) h2 (fun y hy => hS y (Nat.le_trans ho.size hy)) hl⟩
  · rcases List.mem_cons.1 hh with h | h
    · have := h1.1.lt
      omega
    · have := h1.2.lt h
      omega
  · have e : rowsEnc [y] = rowEnc y := by simp [rowsEnc]
    have := row_len y hz
    unfold rowsLen
    rw [e]
    omega
theorem WJ.out {S : Nat → Prop} {W : World} {g : Nat} {P : List UInt8} (h : WJ S W g P) (hP : P.length ≤ 1000000) :
    Calls Try.prog 42 #[.pointer (some ⟨g, 0, none⟩)] W (Fresh W P) := by
  obtain ⟨A, c, h1, h2⟩ := h
  exact out_any g A c P W h1 (by omega)
/-- A call that such a Writer takes, seen from w. -/
theorem WJA.only {S : Nat → Prop} {w W W1 W' : World} {g : Nat} {P : List UInt8} {e : Ending} (h : WJA S W1 g P e W') (o1 : Only [] W W1) (o : Only [] w W) (hS : ∀ y, S y → w.heap.size ≤ y) : Only [] w W' := by
  obtain ⟨_, _, rs, o2, h2⟩ := h
  exact (o.then o1).trans o2 (fun y hy => .inr (hS y (h2 y hy).1))
theorem WJA.bk {S : Nat → Prop} {W W1 W' : World} {g p : Nat} {P : List UInt8} {e : Ending} {t : TypeId} {cs : Array Value} (h : WJA S W1 g P e W') (o1 : Only [] W W1) (hb : Bk W p t cs) (hp : ¬ S p) : Bk W' p t cs := by
  obtain ⟨_, _, rs, o2, h2⟩ := h
  exact (hb.only o1 (by simp)).only o2 (fun hh => hp (h2 _ hh).1)
/-- The loop's relation. -/
def EncW (w : World) (P0 : List UInt8) (l : List Mg) (bc : Array Value) (g : Nat) (k : Nat) (wr : World) : Prop :=
  WJ (fun y => w.heap.size < y) wr g (P0 ++ encMs (l.take k)) ∧ Only [] w wr ∧ Bk wr w.heap.size 26 bc
set_option maxRecDepth 100000 in
set_option maxHeartbeats 8000000 in
theorem Encode_any {S : Nat → Prop} {w : World} (b : Bx) {A : Option Addr} {c : Nat} (h : Ms S w A b.l.length b.l) (hn : b.l.length ≤ 140737488355328) :
    Calls Try.prog 20 #[bxv b A c] w (EncR w b) := by
  have cI := fun (W : World) (o : Only [] w W) => Is_any b (c := c) (h.keep o) hn
  obtain ⟨s, v0, x, l⟩ := b
  obtain ⟨n, hl⟩ : ∃ n, l.length = n := ⟨_, rfl⟩
  simp only at h hn
  simp only [bxv_eq hl] at cI ⊢
  rw [hl] at h hn
  have hO1 : Only [] w (w.alloc (.cells #[.string (St s), .int .i64 v0, .int .i64 x, .slice A n c] 26)) := (Only.refl _ _).alloc _
  have HB0 := Lib.hid (Bk.new w 26 #[.string (St s), .int .i64 v0, .int .i64 x, .slice A n c])
  have HI := Lib.hid (cI _ hO1)
  have HO1 := Lib.hid hO1
  have HM := Lib.hid h
  have HL := Lib.hid hl
  obtain ⟨ns, hns⟩ : ∃ ns, s.length = ns := ⟨_, rfl⟩
  have HCV := Lib.hid (conv_sl2 s)
  rw [hns] at HCV
  obtain ⟨t, ht⟩ : ∃ t, St s = t := ⟨_, rfl⟩
  rw [ht] at HB0 HI HO1 HCV ⊢
  obtain ⟨c0, c1, c2, c3⟩ := bk_four HB0.out
  obtain ⟨p, hp⟩ : ∃ p, isB ⟨s, v0, x, l⟩ = p := ⟨_, rfl⟩
  rw [hp] at HI
  have HP := Lib.hid hp
  have HNS := Lib.hid hns
  clear cI h hl hns ht hp hO1
  go_enter Try.func20, Try.ntmps20
  cases p
  · go_wp2_with (go_at_call 24; go_must (refine HI.out.mono ?_); rintro e w2 ⟨rfl, O2⟩)
    go_ret2
    exact .inr ⟨HP.out, rfl, HO1.out.then O2⟩
  have hB := HP.out
  rw [isB_iff] at hB
  obtain ⟨hB1, hB2, hB3, hB4, hB5⟩ := hB
  simp only at hB1 hB2 hB3 hB4 hB5
  have hsl : ns ≤ 12 := by
    have := HNS.out
    unfold nameL at hB1
    simp only [Bool.and_eq_true, decide_eq_true_eq] at hB1
    omega
  rw [HL.out] at hB4
  obtain ⟨P1, hP1⟩ : ∃ P1, rowEnc s = P1 := ⟨_, rfl⟩
  obtain ⟨P0, hP0⟩ : ∃ P0, P1 ++ encs [v0, x, (n : Int)] = P0 := ⟨_, rfl⟩
  have hm1 : P1.length ≤ 21 := by
    have r1 := row_len s (by rw [HNS.out]; omega)
    rw [hP1, HNS.out] at r1
    omega
  have HLP : Hid (P0.length ≤ 100) := by
    show _ ≤ _
    have r2 := encsLen_le [v0, x, (n : Int)]
    unfold encsLen at r2
    rw [← hP0, List.length_append]
    simp only [List.length_cons, List.length_nil] at r2
    omega
  have HBD : Hid (∀ m ∈ l, m.body.length ≤ 1200) := fun m hm => (rises_at hB5 hm).2.2.2
  have HBI : Hid (∀ m ∈ l, Fits [m.uid, m.flags, m.date]) := fun m hm => by
    have := rises_at hB5 hm
    intro q hq
    simp at hq
    rcases hq with rfl | rfl | rfl <;> omega
  have HPL : Hid (∀ k, (P0 ++ encMs (l.take k)).length ≤ 100000) := fun k => by
    rw [List.length_append]
    have h1 := encMs_len (l := l.take k) (fun m hm => HBD.out m (List.mem_of_mem_take hm))
    rw [List.length_take, HL.out] at h1
    have h2 := HLP.out
    have h3 : min k n ≤ 24 := by omega
    omega
  have HENC : Hid (encB ⟨s, v0, x, l⟩ = P0 ++ encMs l) := by
    show _ = _
    rw [← hP0, ← hP1]
    unfold encB
    simp only
    rw [HL.out]
  have HW1 := Lib.hid (fun (w2 w4 : World) (c4 : Nat) (o1 : Only [] w w2) (hlt : w.heap.size < w2.heap.size) (hs : Sl w4 (some ⟨w2.heap.size + 1, 0, none⟩) ns (bvs s)) (hz : w2.heap.size + 1 < w4.heap.size) (o : Only [] (w2.alloc (.cells #[.slice none 0 0] 72)) w4) => by
    have hw := (WJ.keep (S := fun y => w.heap.size < y ∧ y ≠ w2.heap.size + 1) ⟨none, 0, Wr.new w2, fun y hy => by simp at hy; subst hy; exact ⟨hlt, by omega⟩⟩ o)
    have hb := WJ.bytes hw (fun y hy => ⟨by omega, by omega⟩) (some ⟨w2.heap.size + 1, 0, none⟩) ns c4 s hs (fun _ ad e hh => by injection e with e; subst e; exact hh.2 rfl) (by simp) (by omega)
    rw [List.nil_append, hP1] at hb
    exact hb)
  have HW2 := Lib.hid (fun (W : World) (g : Nat) (hw : WJ (fun y => w.heap.size < y) W g P1) (hlt : w.heap.size < W.heap.size) => by
    have := hw.nums (fun y hy => by omega) v0 x (n : Int) (by intro q hq; simp at hq; rcases hq with rfl | rfl | rfl <;> omega) (by omega)
    rw [hP0] at this
    exact this)
  clear hB1 hP1 hP0 hB5
  go_wp2_with (first
    | (go_at_call 24; go_must (refine HI.out.mono ?_); rintro e w2 ⟨rfl, O2⟩; replace c0 := O2.cellSome c0 (by simp); have hlt2 : w.heap.size < w2.heap.size := (HB0.out.only O2 (by simp)).lt; obtain ⟨w4, c4, hcv, hs4, o4, z4⟩ := HCV.out (w2.alloc (.cells #[.slice none 0 0] 72)); rw [World.size_alloc] at hs4; replace c0 := (((Only.refl [] w2).alloc (.cells #[.slice none 0 0] 72)).cellSome c0 (by simp)))
    | (go_at_call 40; go_must (refine (HW1.out w2 w4 c4 (HO1.out.then O2) hlt2 hs4 (by simpa using z4) o4).mono ?_); rintro e w5 ⟨w5a, o5, J5⟩; obtain rfl := J5.1; have O5 := J5.only o5 (((HO1.out.then O2).alloc _).then o4) (fun y hy => Nat.le_of_lt hy.1); have B5 := J5.bk o5 (((HB0.out.only O2 (by simp)).alloc (.cells #[.slice none 0 0] 72)).only o4 (by simp)) (fun hh => Nat.lt_irrefl _ hh.1); have j5 := (WJ.mono (S' := fun y => w.heap.size < y) J5.2.1 (fun y _ hy => hy.1)); clear c0 c1 c2 c3; obtain ⟨c0, c1, c2, c3⟩ := bk_four B5)
    | (go_at_call 41; go_must (refine (HW2.out w5 w2.heap.size j5 B5.lt).mono ?_); rintro e w6 ⟨w6a, o6, J6⟩; obtain rfl := J6.1; have O6 := J6.only o6 O5 (fun y hy => Nat.le_of_lt hy); have B6 := J6.bk o6 B5 (fun hh => Nat.lt_irrefl _ hh); have j6 := J6.2.1; clear c0 c1 c2 c3; obtain ⟨c0, c1, c2, c3⟩ := bk_four B6))
  have H0 : Hid (EncW w P0 l #[.string t, .int .i64 v0, .int .i64 x, .slice A n c] w2.heap.size 0 w6) := ⟨by simpa [encMs] using j6, O6, B6⟩
  clear c0 c1 c2 c3 O6 B6 j6 J6 o6 O5 B5 j5 J5 o5 hcv hs4 o4 z4 O2 HW1 HW2 HCV HI
  generalize w2.heap.size = g at *
  go_loopw [27] (fun iv wr => ∃ k : Nat, iv = .int .i64 (k : Int) ∧ k ≤ n ∧ Hid (EncW w P0 l #[.string t, .int .i64 v0, .int .i64 x, .slice A n c] g k wr)) (fun iv _ => n - (intOf iv).toNat)
  case atStart => exact ⟨0, rfl, Nat.zero_le _, H0.out⟩
  case round =>
    obtain ⟨k, rfl, hk, HK⟩ := hrel
    obtain ⟨HV, O, BB⟩ := HK.out
    by_cases hlt : k < n
    · have hlt' : (k : Int) < (n : Int) := by omega
      have hkl : k < l.length := by rw [HL.out]; exact hlt
      obtain ⟨ad, Ab, cb, rfl, _, hm⟩ := (HM.out.lt.keep O).at_ hlt hkl
      have HSU : Hid (P0 ++ encMs (l.take (k + 1)) = P0 ++ encMs (l.take k) ++ encs [l[k].uid, l[k].flags, l[k].date] ++ rowEnc l[k].body) := by
        show _ = _
        rw [encMs_succ hkl]
        unfold encM
        simp [List.append_assoc]
      have hbd := HBD.out l[k] (List.getElem_mem hkl)
      have hbi := HBI.out l[k] (List.getElem_mem hkl)
      have hpl := HPL.out k
      generalize l[k] = mg at hm HSU hbd hbi
      obtain ⟨u, f, d, y⟩ := mg
      obtain ⟨m0, m1, m2, m3, hsl, hst⟩ := hm
      simp only at m0 m1 m2 m3 hsl hst HSU hbd hbi
      obtain ⟨P, hP⟩ : ∃ P, P0 ++ encMs (l.take k) = P := ⟨_, rfl⟩
      rw [hP] at HV HSU hpl
      obtain ⟨z, hz⟩ : ∃ z, y.length = z := ⟨_, rfl⟩
      rw [hz] at m3 hsl hst hbd
      have hO6 : Only [] wr (wr.alloc (.cells #[.int .i64 u, .int .i64 f, .int .i64 d, .slice Ab z cb] 62)) := (Only.refl [] wr).alloc _
      have B6 := Bk.new wr 62 #[.int .i64 u, .int .i64 f, .int .i64 d, .slice Ab z cb]
      have hg0 : w.heap.size < wr.heap.size := BB.lt
      have hpl2 : (P ++ encs [u, f, d]).length ≤ 200000 := by
        have r2 := encsLen_le [u, f, d]
        unfold encsLen at r2
        rw [List.length_append]
        simp only [List.length_cons, List.length_nil] at r2
        omega
      have HV6 := Lib.hid (WJ.mono (S' := fun y => w.heap.size < y ∧ y ≠ wr.heap.size) HV (fun y hl hy => ⟨hy, by omega⟩) |>.keep hO6)
      have HN1 := Lib.hid (HV6.out.nums (fun y hy => by simp at hy; exact ⟨by omega, by omega⟩) u f d hbi (by omega))
      have HN2 := Lib.hid (fun (W : World) (o : Only [] w W) (hW : wr.heap.size < W.heap.size) (hw : WJ (fun y => w.heap.size < y ∧ y ≠ wr.heap.size) W g (P ++ encs [u, f, d])) (hs : Sl W Ab z (bvs y)) => hw.bytes (fun y hy => ⟨by omega, by omega⟩) Ab z cb y hs (fun hp a e hh => by have := (hst hp a e).2; have := hh.1; omega) (by omega) (by omega))
      rw [World.size_alloc] at HN1
      have HOO := Lib.hid O
      have HBB := Lib.hid BB
      have HSL := Lib.hid hsl
      have HST := Lib.hid hst
      have HMM : Hid (n - (intOf (.int .i64 ((k : Int) + 1))).toNat < n - (intOf (.int .i64 (k : Int))).toNat) := by
        show _ < _
        simp [intOf]
        omega
      have hk1 : k + 1 ≤ n := by omega
      clear HV O BB hsl hst hP hz hbi HK hpl hpl2
      go_wp2_with (first
        | (go_at_call 41; go_must (refine HN1.out.mono ?_); rintro e w7 ⟨w7a, o7, J7⟩; obtain rfl := J7.1; have O7 := J7.only o7 (HOO.out.then hO6) (fun y hy => Nat.le_of_lt hy.1); have B7 := J7.bk o7 (HBB.out.only hO6 (by simp)) (fun hh => Nat.lt_irrefl _ hh.1); have M7 := J7.bk o7 B6 (fun hh => hh.2 rfl); have j7 := J7.2.1; obtain ⟨n0, n1, n2, n3⟩ := bk_four M7)
        | (go_at_call 40; go_must (refine (HN2.out w7 O7 M7.lt j7 ?_).mono ?_); rotate_left; rintro e w8 ⟨w8a, o8, J8⟩; obtain rfl := J8.1; have O8 := J8.only o8 O7 (fun y hy => Nat.le_of_lt hy.1); have B8 := J8.bk o8 B7 (fun hh => Nat.lt_irrefl _ hh.1); have j8 := (WJ.mono (S' := fun y => w.heap.size < y) J8.2.1 (fun y _ hy => hy.1))))
      rotate_left
      · obtain ⟨rs, o9, h9⟩ := J7.2.2
        exact ((HSL.out.keep hO6).keep o7).only' o9 (fun hp a e hh => by have h1 := (HST.out hp a e).2; have h2 := (h9 _ hh).1.1; omega)
      have HKN : Hid (EncW w P0 l #[.string t, .int .i64 v0, .int .i64 x, .slice (some ad) n c] g (k + 1) w8) := ⟨by rw [HSU.out]; exact j8, O8, B8⟩
      go_roundw
      case rel => exact ⟨k + 1, by go_num, hk1, HKN.out⟩
      case measure => exact HMM.out
    · obtain rfl : k = n := by omega
      have hall : l.take k = l := List.take_of_length_le (by rw [HL.out]; exact Nat.le_refl _)
      rw [hall, ← HENC.out] at HV
      have hpl := HPL.out k
      rw [hall, ← HENC.out] at hpl
      have HO := Lib.hid O
      have HVV := Lib.hid (HV.out (by omega))
      clear HK HV O BB
      go_wp2_with (go_at_call 42; go_must (refine HVV.out.mono ?_); rintro e w7 ⟨A7, c7, rfl, V7, O7, F7⟩)
      go_ret2
      exact .inl ⟨HP.out, A7, c7, rfl, V7, HO.out.then O7, fun y hy => Nat.le_trans HO.out.size (F7 y hy)⟩
end Go.Proofs.Ythaodlegpjedoaa
