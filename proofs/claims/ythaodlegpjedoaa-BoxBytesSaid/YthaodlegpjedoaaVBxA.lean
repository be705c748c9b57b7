import Derived.Test.YthaodlegpjedoaaVRefEnc
import Derived.Test.YthaodlegpjedoaaWriter2
import Derived.Test.YthaodlegpjedoaaVMath
import Derived.Test.YthaodlegpjedoaaVMem
import Derived.Test.YthaodlegpjedoaaVLeaf
import Derived.Test.YthaodlegpjedoaaVAdd
import Derived.Test.YthaodlegpjedoaaVCall
import Derived.Test.YthaodlegpjedoaaVSame
import Derived.Test.YthaodlegpjedoaaVIs3
import Derived.Test.YthaodlegpjedoaaVHas
/-
  box.Encode, over octet's Writer.
-/
namespace Go.Proofs.Ythaodlegpjedoaa
open Go.RowKit Go.Instr

theorem rows_oneP {S : Nat → Prop} {w : World} {g : Nat} {t : TypeId} {A : Option Addr} {c : Nat} {l : List UInt8} (h : Bk w g t #[.slice A l.length c]) (hs : Sl w A l.length (bvs l)) (hg : S g) (hA : 0 < l.length → ∀ ad, A = some ad → S ad.block) : RwS S w (some ⟨g, 0, none⟩) 1 [l] :=
  ⟨rfl, _, Sl.of_bk h, fun _ ad e => by injection e with e; subst e; exact hg, fun i l' hi => by
    match i, hi with
    | 0, hi => simp at hi; subst hi; exact ⟨A, c, by simp, hs, hA⟩⟩
theorem conv_sl2 (s : List UInt8) (w : World) : ∃ w' c, (convert 9 29 (.string (St s))).run Try.prog w = .ok (.slice (some ⟨w.heap.size, 0, none⟩) s.length c) w' ∧ Sl w' (some ⟨w.heap.size, 0, none⟩) s.length (bvs s) ∧ Only [] w w' ∧ w.heap.size < w'.heap.size := by
  have hr := Lib.run_convert_string_bytes (P := Try.prog) w 9 29 5 (St s) Try.underlying9 Try.underlying29 Try.underlying5
  rw [St_size] at hr
  refine ⟨_, _, hr, ⟨by simp, fun _ => ⟨_, rfl, fun j u hu => ?_⟩⟩, ⟨rfl, rfl, rfl, by rw [Lib.bytesWorld_size]; omega, fun k hk _ => Lib.bytesWorld_at_old w _ (St s) k hk⟩, by rw [Lib.bytesWorld_size]; omega⟩
  have hj : j < s.length := by have := (List.getElem?_eq_some_iff.1 hu).1; simpa using this
  rw [bvs_get s j hj] at hu
  rw [add_none, Nat.zero_add, Lib.bytesWorld_cell w 5 (St s) j (by rw [St_size]; exact hj), St_list, List.getD_eq_getElem?_getD, List.getElem?_eq_getElem hj, ← hu]
  rfl
/-- The Writer at g has P; all of its blocks are of the kind S. -/
def WJ (S : Nat → Prop) (W : World) (g : Nat) (P : List UInt8) : Prop := ∃ A c, Wr W g A c P ∧ ∀ y ∈ g :: blks A, S y
/-- What such a call does. -/
def WJA (S : Nat → Prop) (W : World) (g : Nat) (P : List UInt8) (e : Ending) (W' : World) : Prop := e = .returned (.tuple #[]) ∧ WJ S W' g P ∧ ∃ rs, Only rs W W' ∧ ∀ y ∈ rs, S y ∧ y < W.heap.size
theorem WJ.keep {S : Nat → Prop} {W W' : World} {g : Nat} {P : List UInt8} (h : WJ S W g P) (o : Only [] W W') : WJ S W' g P := by
  obtain ⟨A, c, h1, h2⟩ := h
  exact ⟨A, c, h1.keep o, h2⟩
theorem WJ.mono {S S' : Nat → Prop} {W : World} {g : Nat} {P : List UInt8} (h : WJ S W g P) (hS : ∀ y, y < W.heap.size → S y → S' y) : WJ S' W g P := by
  obtain ⟨A, c, h1, h2⟩ := h
  refine ⟨A, c, h1, fun y hy => hS y ?_ (h2 y hy)⟩
  rcases List.mem_cons.1 hy with rfl | h
  · exact h1.1.lt
  · exact h1.2.lt h
theorem WJA.of {S : Nat → Prop} {W : World} {g : Nat} {A : Option Addr} {c : Nat} {P P0 : List UInt8} (h1 : Wr W g A c P0) (h2 : ∀ y ∈ g :: blks A, S y) (hS : ∀ y, W.heap.size ≤ y → S y) {e : Ending} {W' : World} (h : Laid W g A P e W') : WJA S W g P e W' := by
  obtain ⟨he, A', c', w1, o1, f1⟩ := h
  refine ⟨he, ⟨A', c', w1, fun y hy => ?_⟩, _, o1, fun y hy => ⟨h2 y hy, ?_⟩⟩
  · rcases List.mem_cons.1 hy with rfl | h
    · exact h2 _ List.mem_cons_self
    · rcases f1 y h with h | h
      · exact h2 y (List.mem_cons_of_mem _ h)
      · exact hS y h
  · rcases List.mem_cons.1 hy with rfl | h
    · exact h1.1.lt
    · exact h1.2.lt h
theorem WJ.nums {S : Nat → Prop} {W : World} {g : Nat} {P : List UInt8} (h : WJ S W g P) (hS : ∀ y, W.heap.size ≤ y → S y) (a b d : Int) (hf : Fits [a, b, d]) (hP : P.length ≤ 1000000) :
    Calls Try.prog 41 #[.pointer (some ⟨g, 0, none⟩), .slice (some ⟨W.heap.size, 0, none⟩) 3 3] (W.alloc (.cells #[.int .i64 a, .int .i64 b, .int .i64 d] 3)) fun e w' => ∃ w1, Only [] W w1 ∧ WJA S w1 g (P ++ encs [a, b, d]) e w' := by
  obtain ⟨A, c, h1, h2⟩ := h
  have ho : Only [] W (W.alloc (.cells #[.int .i64 a, .int .i64 b, .int .i64 d] 3)) := (Only.refl [] W).alloc _
  refine (wnums_any g A c P (some ⟨W.heap.size, 0, none⟩) 3 3 [a, b, d] _ (h1.keep ho) (Sl.of_bk (Bk.new W _ _)) hf (fun _ ad e hh => ?_) (by omega) (by omega)).mono fun e w' hl => ⟨_, ho, WJA.of (h1.keep ho) h2 (fun y hy => hS y (Nat.le_trans ho.size hy)) hl⟩
  injection e with e
  subst e
  rcases List.mem_cons.1 hh with h | h
  · have := h1.1.lt
    simp only at h
    omega
  · have := h1.2.lt h
    simp only at this
    omega
theorem WJ.bytes {S : Nat → Prop} {W : World} {g : Nat} {P : List UInt8} (h : WJ S W g P) (hS : ∀ y, W.heap.size ≤ y → S y) (Ab : Option Addr) (z cb : Nat) (y : List UInt8) (hs : Sl W Ab z (bvs y)) (hb : 0 < z → ∀ ad, Ab = some ad → ¬ S ad.block) (hP : P.length ≤ 1000000) (hz : z ≤ 100000) :
    Calls Try.prog 40 #[.pointer (some ⟨g, 0, none⟩), .slice (some ⟨W.heap.size, 0, none⟩) 1 1] (W.alloc (.cells #[.slice Ab z cb] 29)) fun e w' => ∃ w1, Only [] W w1 ∧ WJA S w1 g (P ++ rowEnc y) e w' := by
  obtain ⟨A, c, h1, h2⟩ := h
  have hy : y.length = z := by simpa using hs.len
  subst hy
  have ho : Only [] W (W.alloc (.cells #[.slice Ab y.length cb] 29)) := (Only.refl [] W).alloc _
  have hr := wbytes_any g A c P (some ⟨W.heap.size, 0, none⟩) 1 1 [y] _ (fun k => k ∉ g :: blks A) (h1.keep ho) (rows_oneP (c := cb) (Bk.new W 29 _) (hs.keep ho) (fun hh => ?_) (fun hp ad e hh => hb hp ad e (h2 _ hh))) (fun k hk => hk) (by omega) ?_
  · have e : rowsEnc [y] = rowEnc y := by simp [rowsEnc]
    rw [e] at hr
    exact hr.mono fun e w' hl => ⟨_, ho, WJA.of (h1.keep ho) h2 (fun y hy => hS y (Nat.le_trans ho.size hy)) hl⟩
  · rcases List.mem_cons.1 hh with h | h
    · have := h1.1.lt
      omega
    · have := h1.2.lt h
      omega
  · have e : rowsEnc [y] = rowEnc y := by simp [rowsEnc]
    have := row_len y hz
    unfold rowsLen
    rw [e]
    omega
theorem WJ.out {S : Nat → Prop} {W : World} {g : Nat} {P : List UInt8} (h : WJ S W g P) (hP : P.length ≤ 1000000) :
    Calls Try.prog 42 #[.pointer (some ⟨g, 0, none⟩)] W (Fresh W P) := by
  obtain ⟨A, c, h1, h2⟩ := h
  exact out_any g A c P W h1 (by omega)
/-- A call that such a Writer takes, seen from w. -/
theorem WJA.only {S : Nat → Prop} {w W W1 W' : World} {g : Nat} {P : List UInt8} {e : Ending} (h : WJA S W1 g P e W') (o1 : Only [] W W1) (o : Only [] w W) (hS : ∀ y, S y → w.heap.size ≤ y) : Only [] w W' := by
  obtain ⟨_, _, rs, o2, h2⟩ := h
  exact (o.then o1).trans o2 (fun y hy => .inr (hS y (h2 y hy).1))
theorem WJA.bk {S : Nat → Prop} {W W1 W' : World} {g p : Nat} {P : List UInt8} {e : Ending} {t : TypeId} {cs : Array Value} (h : WJA S W1 g P e W') (o1 : Only [] W W1) (hb : Bk W p t cs) (hp : ¬ S p) : Bk W' p t cs := by
  obtain ⟨_, _, rs, o2, h2⟩ := h
  exact (hb.only o1 (by simp)).only o2 (fun hh => hp (h2 _ hh).1)
/-- The loop's relation. -/
def EncW (w : World) (P0 : List UInt8) (l : List Mg) (bc : Array Value) (g : Nat) (k : Nat) (wr : World) : Prop :=
  WJ (fun y => w.heap.size < y) wr g (P0 ++ encMs (l.take k)) ∧ Only [] w wr ∧ Bk wr w.heap.size 26 bc
set_option maxRecDepth 100000 in
set_option maxHeartbeats 8000000 in
theorem Encode_any {S : Nat → Prop} {w : World} (b : Bx) {A : Option Addr} {c : Nat} (h : Ms S w A b.l.length b.l) (hn : b.l.length ≤ 140737488355328) :
    Calls Try.prog 20 #[bxv b A c] w (EncR w b) := by
  have cI := fun (W : World) (o : Only [] w W) => Is_any b (c := c) (h.keep o) hn
  obtain ⟨s, v0, x, l⟩ := b
  obtain ⟨n, hl⟩ : ∃ n, l.length = n := ⟨_, rfl⟩
  simp only at h hn
  simp only [bxv_eq hl] at cI ⊢
  rw [hl] at h hn
  have hO1 : Only [] w (w.alloc (.cells #[.string (St s), .int .i64 v0, .int .i64 x, .slice A n c] 26)) := (Only.refl _ _).alloc _
  have HB0 := Lib.hid (Bk.new w 26 #[.string (St s), .int .i64 v0, .int .i64 x, .slice A n c])
  have HI := Lib.hid (cI _ hO1)
  have HO1 := Lib.hid hO1
  have HM := Lib.hid h
  have HL := Lib.hid hl
  obtain ⟨ns, hns⟩ : ∃ ns, s.length = ns := ⟨_, rfl⟩
  have HCV := Lib.hid (conv_sl2 s)
  rw [hns] at HCV
  obtain ⟨t, ht⟩ : ∃ t, St s = t := ⟨_, rfl⟩
  rw [ht] at HB0 HI HO1 HCV ⊢
  obtain ⟨c0, c1, c2, c3⟩ := bk_four HB0.out
  obtain ⟨p, hp⟩ : ∃ p, isB ⟨s, v0, x, l⟩ = p := ⟨_, rfl⟩
  rw [hp] at HI
  have HP := Lib.hid hp
  have HNS := Lib.hid hns
  clear cI h hl hns ht hp hO1
  go_enter Try.func20, Try.ntmps20
  cases p
  · go_wp2_with (go_at_call 24; go_must (refine HI.out.mono ?_); rintro e w2 ⟨rfl, O2⟩)
    go_ret2
    exact .inr ⟨HP.out, rfl, HO1.out.then O2⟩
  have hB := HP.out
  rw [isB_iff] at hB
  obtain ⟨hB1, hB2, hB3, hB4, hB5⟩ := hB
  simp only at hB1 hB2 hB3 hB4 hB5
  have hsl : ns ≤ 12 := by
    have := HNS.out
    unfold nameL at hB1
    simp only [Bool.and_eq_true, decide_eq_true_eq] at hB1
    omega
  rw [HL.out] at hB4
  obtain ⟨P1, hP1⟩ : ∃ P1, rowEnc s = P1 := ⟨_, rfl⟩
  obtain ⟨P0, hP0⟩ : ∃ P0, P1 ++ encs [v0, x, (n : Int)] = P0 := ⟨_, rfl⟩
  have hm1 : P1.length ≤ 21 := by
    have r1 := row_len s (by rw [HNS.out]; omega)
    rw [hP1, HNS.out] at r1
    omega
  have HLP : Hid (P0.length ≤ 100) := by
    show _ ≤ _
    have r2 := encsLen_le [v0, x, (n : Int)]
    unfold encsLen at r2
    rw [← hP0, List.length_append]
    simp only [List.length_cons, List.length_nil] at r2
    omega
  have HBD : Hid (∀ m ∈ l, m.body.length ≤ 1200) := fun m hm => (rises_at hB5 hm).2.2.2
  have HBI : Hid (∀ m ∈ l, Fits [m.uid, m.flags, m.date]) := fun m hm => by
    have := rises_at hB5 hm
    intro q hq
    simp at hq
    rcases hq with rfl | rfl | rfl <;> omega
  have HPL : Hid (∀ k, (P0 ++ encMs (l.take k)).length ≤ 100000) := fun k => by
    rw [List.length_append]
    have h1 := encMs_len (l := l.take k) (fun m hm => HBD.out m (List.mem_of_mem_take hm))
    rw [List.length_take, HL.out] at h1
    have h2 := HLP.out
    have h3 : min k n ≤ 24 := by omega
    omega
  have HENC : Hid (encB ⟨s, v0, x, l⟩ = P0 ++ encMs l) := by
    show _ = _
    rw [← hP0, ← hP1]
    unfold encB
    simp only
    rw [HL.out]
  have HW1 := Lib.hid (fun (w2 w4 : World) (c4 : Nat) (o1 : Only [] w w2) (hlt : w.heap.size < w2.heap.size) (hs : Sl w4 (some ⟨w2.heap.size + 1, 0, none⟩) ns (bvs s)) (hz : w2.heap.size + 1 < w4.heap.size) (o : Only [] (w2.alloc (.cells #[.slice none 0 0] 72)) w4) => by
    have hw := (WJ.keep (S := fun y => w.heap.size < y ∧ y ≠ w2.heap.size + 1) ⟨none, 0, Wr.new w2, fun y hy => by simp at hy; subst hy; exact ⟨hlt, by omega⟩⟩ o)
    have hb := WJ.bytes hw (fun y hy => ⟨by omega, by omega⟩) (some ⟨w2.heap.size + 1, 0, none⟩) ns c4 s hs (fun _ ad e hh => by injection e with e; subst e; exact hh.2 rfl) (by simp) (by omega)
    rw [List.nil_append, hP1] at hb
    exact hb)
  have HW2 := Lib.hid (fun (W : World) (g : Nat) (hw : WJ (fun y => w.heap.size < y) W g P1) (hlt : w.heap.size < W.heap.size) => by
    have := hw.nums (fun y hy => by omega) v0 x (n : Int) (by intro q hq; simp at hq; rcases hq with rfl | rfl | rfl <;> omega) (by omega)
    rw [hP0] at this
    exact this)
  clear hB1 hP1 hP0 hB5
  go_wp2_with (first
    | (go_at_call 24; go_must (refine HI.out.mono ?_); rintro e w2 ⟨rfl, O2⟩; replace c0 := O2.cellSome c0 (by simp); have hlt2 : w.heap.size < w2.heap.size := (HB0.out.only O2 (by simp)).lt; obtain ⟨w4, c4, hcv, hs4, o4, z4⟩ := HCV.out (w2.alloc (.cells #[.slice none 0 0] 72)); rw [World.size_alloc] at hs4; replace c0 := (((Only.refl [] w2).alloc (.cells #[.slice none 0 0] 72)).cellSome c0 (by simp)))
    | (go_at_call 40; go_must (refine (HW1.out w2 w4 c4 (HO1.out.then O2) hlt2 hs4 (by simpa using z4) o4).mono ?_); rintro e w5 ⟨w5a, o5, J5⟩; obtain rfl := J5.1; have O5 := J5.only o5 (((HO1.out.then O2).alloc _).then o4) (fun y hy => Nat.le_of_lt hy.1); have B5 := J5.bk o5 (((HB0.out.only O2 (by simp)).alloc (.cells #[.slice none 0 0] 72)).only o4 (by simp)) (fun hh => Nat.lt_irrefl _ hh.1); have j5 := (WJ.mono (S' := fun y => w.heap.size < y) J5.2.1 (fun y _ hy => hy.1)); clear c0 c1 c2 c3; obtain ⟨c0, c1, c2, c3⟩ := bk_four B5)
    | (go_at_call 41; go_must (refine (HW2.out w5 w2.heap.size j5 B5.lt).mono ?_); rintro e w6 ⟨w6a, o6, J6⟩; obtain rfl := J6.1; have O6 := J6.only o6 O5 (fun y hy => Nat.le_of_lt hy); have B6 := J6.bk o6 B5 (fun hh => Nat.lt_irrefl _ hh); have j6 := J6.2.1; clear c0 c1 c2 c3; obtain ⟨c0, c1, c2, c3⟩ := bk_four B6))
  have H0 : Hid (EncW w P0 l #[.string t, .int .i64 v0, .int .i64 x, .slice A n c] w2.heap.size 0 w6) := ⟨by simpa [encMs] using j6, O6, B6⟩
  clear c0 c1 c2 c3 O6 B6 j6 J6 o6 O5 B5 j5 J5 o5 hcv hs4 o4 z4 O2 HW1 HW2 HCV HI
  generalize w2.heap.size = g at *
  go_loopw [27] (fun iv wr => ∃ k : Nat, iv = .int .i64 (k : Int) ∧ k ≤ n ∧ Hid (EncW w P0 l #[.string t, .int .i64 v0, .int .i64 x, .slice A n c] g k wr)) (fun iv _ => n - (intOf iv).toNat)
  case atStart => exact ⟨0, rfl, Nat.zero_le _, H0.out⟩
  case round =>
    obtain ⟨k, rfl, hk, HK⟩ := hrel
    obtain ⟨HV, O, BB⟩ := HK.out
    by_cases hlt : k < n
    · have hlt' : (k : Int) < (n : Int) := by omega
      have hkl : k < l.length := by rw [HL.out]; exact hlt
      obtain ⟨ad, Ab, cb, rfl, _, hm⟩ := (HM.out.lt.keep O).at_ hlt hkl
      have HSU : Hid (P0 ++ encMs (l.take (k + 1)) = P0 ++ encMs (l.take k) ++ encs [l[k].uid, l[k].flags, l[k].date] ++ rowEnc l[k].body) := by
        show _ = _
        rw [encMs_succ hkl]
        unfold encM
        simp [List.append_assoc]
      have hbd := HBD.out l[k] (List.getElem_mem hkl)
      have hbi := HBI.out l[k] (List.getElem_mem hkl)
      have hpl := HPL.out k
      generalize l[k] = mg at hm HSU hbd hbi
      obtain ⟨u, f, d, y⟩ := mg
      obtain ⟨m0, m1, m2, m3, hsl, hst⟩ := hm
      simp only at m0 m1 m2 m3 hsl hst HSU hbd hbi
      obtain ⟨P, hP⟩ : ∃ P, P0 ++ encMs (l.take k) = P := ⟨_, rfl⟩
      rw [hP] at HV HSU hpl
      obtain ⟨z, hz⟩ : ∃ z, y.length = z := ⟨_, rfl⟩
      rw [hz] at m3 hsl hst hbd
      have hO6 : Only [] wr (wr.alloc (.cells #[.int .i64 u, .int .i64 f, .int .i64 d, .slice Ab z cb] 62)) := (Only.refl [] wr).alloc _
      have B6 := Bk.new wr 62 #[.int .i64 u, .int .i64 f, .int .i64 d, .slice Ab z cb]
      have hg0 : w.heap.size < wr.heap.size := BB.lt
      have hpl2 : (P ++ encs [u, f, d]).length ≤ 200000 := by
        have r2 := encsLen_le [u, f, d]
        unfold encsLen at r2
        rw [List.length_append]
        simp only [List.length_cons, List.length_nil] at r2
        omega
      have HV6 := Lib.hid (WJ.mono (S' := fun y => w.heap.size < y ∧ y ≠ wr.heap.size) HV (fun y hl hy => ⟨hy, by omega⟩) |>.keep hO6)
      have HN1 := Lib.hid (HV6.out.nums (fun y hy => by simp at hy; exact ⟨by omega, by omega⟩) u f d hbi (by omega))
      have HN2 := Lib.hid (fun (W : World) (o : Only [] w W) (hW : wr.heap.size < W.heap.size) (hw : WJ (fun y => w.heap.size < y ∧ y ≠ wr.heap.size) W g (P ++ encs [u, f, d])) (hs : Sl W Ab z (bvs y)) => hw.bytes (fun y hy => ⟨by omega, by omega⟩) Ab z cb y hs (fun hp a e hh => by have := (hst hp a e).2; have := hh.1; omega) (by omega) (by omega))
      rw [World.size_alloc] at HN1
      have HOO := Lib.hid O
      have HBB := Lib.hid BB
      have HSL := Lib.hid hsl
      have HST := Lib.hid hst
      have HMM : Hid (n - (intOf (.int .i64 ((k : Int) + 1))).toNat < n - (intOf (.int .i64 (k : Int))).toNat) := by
        show _ < _
        simp [intOf]
        omega
      have hk1 : k + 1 ≤ n := by omega
      clear HV O BB hsl hst hP hz hbi HK hpl hpl2
      go_wp2_with (first
        | (go_at_call 41; go_must (refine HN1.out.mono ?_); rintro e w7 ⟨w7a, o7, J7⟩; obtain rfl := J7.1; have O7 := J7.only o7 (HOO.out.then hO6) (fun y hy => Nat.le_of_lt hy.1); have B7 := J7.bk o7 (HBB.out.only hO6 (by simp)) (fun hh => Nat.lt_irrefl _ hh.1); have M7 := J7.bk o7 B6 (fun hh => hh.2 rfl); have j7 := J7.2.1; obtain ⟨n0, n1, n2, n3⟩ := bk_four M7)
        | (go_at_call 40; go_must (refine (HN2.out w7 O7 M7.lt j7 ?_).mono ?_); rotate_left; rintro e w8 ⟨w8a, o8, J8⟩; obtain rfl := J8.1; have O8 := J8.only o8 O7 (fun y hy => Nat.le_of_lt hy.1); have B8 := J8.bk o8 B7 (fun hh => Nat.lt_irrefl _ hh.1); have j8 := (WJ.mono (S' := fun y => w.heap.size < y) J8.2.1 (fun y _ hy => hy.1))))
      rotate_left
      · obtain ⟨rs, o9, h9⟩ := J7.2.2
        exact ((HSL.out.keep hO6).keep o7).only' o9 (fun hp a e hh => by have h1 := (HST.out hp a e).2; have h2 := (h9 _ hh).1.1; omega)
      have HKN : Hid (EncW w P0 l #[.string t, .int .i64 v0, .int .i64 x, .slice (some ad) n c] g (k + 1) w8) := ⟨by rw [HSU.out]; exact j8, O8, B8⟩
      go_roundw
      case rel => exact ⟨k + 1, by go_num, hk1, HKN.out⟩
      case measure => exact HMM.out
    · obtain rfl : k = n := by omega
      have hall : l.take k = l := List.take_of_length_le (by rw [HL.out]; exact Nat.le_refl _)
      rw [hall, ← HENC.out] at HV
      have hpl := HPL.out k
      rw [hall, ← HENC.out] at hpl
      have HO := Lib.hid O
      have HVV := Lib.hid (HV.out (by omega))
      clear HK HV O BB
      go_wp2_with (go_at_call 42; go_must (refine HVV.out.mono ?_); rintro e w7 ⟨A7, c7, rfl, V7, O7, F7⟩)
      go_ret2
      exact .inl ⟨HP.out, A7, c7, rfl, V7, HO.out.then O7, fun y hy => Nat.le_trans HO.out.size (F7 y hy)⟩
end Go.Proofs.Ythaodlegpjedoaa
/-
  octet's Reader into three places; box.message.
-/
namespace Go.Proofs.Ythaodlegpjedoaa
open Go.RowKit Go.Instr

set_option maxRecDepth 100000 in
set_option maxHeartbeats 2000000 in
/-- Three numbers into three places; F tells what the places hold behind k of them. -/
theorem rnumsF_any {w : World} {g kb s b0 b1 b2 o0 o1 o2 : Nat} {A : Option Addr} {c : Nat} {r : RS} (X : List Nat) (F : Nat → World → Prop) (h : Rd w g kb A c r.1 r.2)
    (hs : Bk w s 81 #[.pointer (some ⟨b0, o0, none⟩), .pointer (some ⟨b1, o1, none⟩), .pointer (some ⟨b2, o2, none⟩)]) (hb : b0 ∈ X ∧ b1 ∈ X ∧ b2 ∈ X) (hg : g ∉ X) (hk : kb ∉ X) (hsX : s ∉ X)
    (h0 : F 0 w) (keep : ∀ k W W', Only [g] W W' → F k W → F k W')
    (f0 : ∀ W, F 0 W → (∃ x, W.cell? ⟨b0, o0, none⟩ = some (.int .i64 x)) ∧ W.frozen? ⟨b0, o0, none⟩ = false ∧ F 1 (W.setCell ⟨b0, o0, none⟩ (.int .i64 (tv r))))
    (f1 : ∀ W, F 1 W → (∃ x, W.cell? ⟨b1, o1, none⟩ = some (.int .i64 x)) ∧ W.frozen? ⟨b1, o1, none⟩ = false ∧ F 2 (W.setCell ⟨b1, o1, none⟩ (.int .i64 (tv (tk r)))))
    (f2 : ∀ W, F 2 W → (∃ x, W.cell? ⟨b2, o2, none⟩ = some (.int .i64 x)) ∧ W.frozen? ⟨b2, o2, none⟩ = false ∧ F 3 (W.setCell ⟨b2, o2, none⟩ (.int .i64 (tv (tk (tk r)))))) :
    Calls Try.prog 47 #[.pointer (some ⟨g, 0, none⟩), .slice (some ⟨s, 0, none⟩) 3 3] w fun e w' => e = .returned (.tuple #[]) ∧ ∃ A' c', Rd w' g kb A' c' (tk (tk (tk r))).1 (tk (tk (tk r))).2 ∧ F 3 w' ∧ Only (g :: X) w w' := by
  have hsg : s ≠ g := hs.ne h.bk (by decide)
  have hsX' : s ∉ g :: X := fun hh => (List.mem_cons.1 hh).elim hsg hsX
  have H1 := Lib.hid f0
  have H2 := Lib.hid f1
  have H3 := Lib.hid f2
  have HK := Lib.hid keep
  have H0 := Lib.hid h0
  have HR0 := Lib.hid h
  have HX := Lib.hid hb
  clear f0 f1 f2 keep h0 hb h
  go_enter Try.func47, Try.ntmps47
  go_wp2
  go_loopw [9] (fun i wr => ∃ k : Nat, k ≤ 3 ∧ i = .int .i64 k ∧ ∃ (q : RS) (A' : Option Addr) (c' : Nat), q = (match k with | 0 => r | 1 => tk r | 2 => tk (tk r) | _ => tk (tk (tk r))) ∧ Rd wr g kb A' c' q.1 q.2 ∧ F k wr ∧ Only (g :: X) w wr) (fun i _ => 3 - (intOf i).toNat)
  case atStart => exact ⟨0, Nat.zero_le _, rfl, r, A, c, rfl, HR0.out, H0.out, Only.refl _ _⟩
  case round =>
    obtain ⟨k, hk3, rfl, q, A', c', hq, HR, HF, HO⟩ := hrel
    have HS := hs.only HO hsX'
    have s0 : wr.cell? ⟨s, 0, none⟩ = some (.pointer (some ⟨b0, o0, none⟩)) := by rw [HS.cell]; rfl
    have s1 : wr.cell? ⟨s, 1, none⟩ = some (.pointer (some ⟨b1, o1, none⟩)) := by rw [HS.cell]; rfl
    have s2 : wr.cell? ⟨s, 2, none⟩ = some (.pointer (some ⟨b2, o2, none⟩)) := by rw [HS.cell]; rfl
    have HNm := Lib.hid (num_any HR)
    have HQ := Lib.hid hq
    have HRO := Lib.hid HR
    clear hq HR HS
    obtain rfl | rfl | rfl | rfl : k = 0 ∨ k = 1 ∨ k = 2 ∨ k = 3 := by omega
    · obtain rfl := HQ.out
      go_wp2_with fail
      refine HNm.out.mono ?_
      rintro e w1 ⟨rfl, A1, c1, R1, O1⟩
      have F1 := HK.out 0 _ _ O1 HF
      obtain ⟨⟨y, ca⟩, fa, fb⟩ := H1.out _ F1
      have hlt := block_lt_of_cell ca
      simp only at hlt
      have HFB := Lib.hid fb
      have HRR := Lib.hid R1
      clear fb F1 R1
      go_wp2_with fail
      go_roundw
      case rel =>
        exact ⟨1, by omega, by go_num, tk q, A1, c1, rfl, HRR.out.only (rs := X) ((Only.refl _ _).setCell (.inl HX.out.1) _) hg hk, HFB.out, (HO.trans O1 (fun x hx => .inl (by simp at hx; simp [hx]))).setCell (.inl (List.mem_cons_of_mem _ HX.out.1)) _⟩
      case measure => simp [intOf]
    · obtain rfl := HQ.out
      go_wp2_with fail
      refine HNm.out.mono ?_
      rintro e w1 ⟨rfl, A1, c1, R1, O1⟩
      have F1 := HK.out 1 _ _ O1 HF
      obtain ⟨⟨y, ca⟩, fa, fb⟩ := H2.out _ F1
      have hlt := block_lt_of_cell ca
      simp only at hlt
      have HFB := Lib.hid fb
      have HRR := Lib.hid R1
      clear fb F1 R1
      go_wp2_with fail
      go_roundw
      case rel =>
        exact ⟨2, by omega, by go_num, tk (tk r), A1, c1, rfl, HRR.out.only (rs := X) ((Only.refl _ _).setCell (.inl HX.out.2.1) _) hg hk, HFB.out, (HO.trans O1 (fun x hx => .inl (by simp at hx; simp [hx]))).setCell (.inl (List.mem_cons_of_mem _ HX.out.2.1)) _⟩
      case measure => simp [intOf]
    · obtain rfl := HQ.out
      go_wp2_with fail
      refine HNm.out.mono ?_
      rintro e w1 ⟨rfl, A1, c1, R1, O1⟩
      have F1 := HK.out 2 _ _ O1 HF
      obtain ⟨⟨y, ca⟩, fa, fb⟩ := H3.out _ F1
      have hlt := block_lt_of_cell ca
      simp only at hlt
      have HFB := Lib.hid fb
      have HRR := Lib.hid R1
      clear fb F1 R1
      go_wp2_with fail
      go_roundw
      case rel =>
        exact ⟨3, by omega, by go_num, tk (tk (tk r)), A1, c1, rfl, HRR.out.only (rs := X) ((Only.refl _ _).setCell (.inl HX.out.2.2) _) hg hk, HFB.out, (HO.trans O1 (fun x hx => .inl (by simp at hx; simp [hx]))).setCell (.inl (List.mem_cons_of_mem _ HX.out.2.2)) _⟩
      case measure => simp [intOf]
    · go_wp2_with fail
      go_end0
      obtain rfl := HQ.out
      exact ⟨rfl, ⟨A', c', HRO.out⟩, HF, HO⟩
theorem infoM : (Try.prog.info? 62).map (·.size) = some 4 := by kernel_rfl
theorem msg_ret {fn : Func} {R : Ending → World → Prop} {tmps : Array Value} {w : World} {s : Nat} (hres : fn.results = #[.cell s 62]) (p : Nat) (a b c d : Value) (h2 : tmps.getD s undef = .pointer (some ⟨p, 0, none⟩))
    (hb : Bk w p 62 #[a, b, c, d]) (hR : R (.returned (.agg #[a, b, c, d])) w) : bodyPost Try.prog fn R .ret { tmps := tmps, defers := [] } w := by
  refine bodyPost_ret (v := .agg #[a, b, c, d]) ?_ rfl hR
  exact results_cell_row hres tmps w p 62 #[a, b, c, d] (0, 0) _ h2 hb Try.underlying62 rfl infoM
/-- The message's cells behind k numbers. -/
def FM (m : Nat) (v0 v1 v2 : Int) : Nat → World → Prop
  | 0, W => Bk W m 62 #[.int .i64 0, .int .i64 0, .int .i64 0, .slice none 0 0]
  | 1, W => Bk W m 62 #[.int .i64 v0, .int .i64 0, .int .i64 0, .slice none 0 0]
  | 2, W => Bk W m 62 #[.int .i64 v0, .int .i64 v1, .int .i64 0, .slice none 0 0]
  | _, W => Bk W m 62 #[.int .i64 v0, .int .i64 v1, .int .i64 v2, .slice none 0 0]
/-- What message answers: a message whose body lies in new memory; the Reader has gone on. -/
def TookMg (w : World) (g kb : Nat) (m : Mg) (r : RS) (e : Ending) (w' : World) : Prop :=
  ∃ P cp A' c', e = .returned (.agg #[.int .i64 m.uid, .int .i64 m.flags, .int .i64 m.date, .slice P m.body.length cp]) ∧ Own w' 5 P m.body.length cp (bvs m.body) ∧ (∀ k ∈ blks P, w.heap.size ≤ k) ∧ Rd w' g kb A' c' r.1 r.2 ∧ Only [g] w w'
set_option maxRecDepth 100000 in
set_option maxHeartbeats 2000000 in
theorem message_any {w : World} {g kb : Nat} {A : Option Addr} {c : Nat} {r : RS} (h : Rd w g kb A c r.1 r.2) :
    Calls Try.prog 50 #[.pointer (some ⟨g, 0, none⟩)] w (TookMg w g kb (takeM r) (restM r)) := by
  have hlt := h.bk.lt
  have hz := h.lt
  have HR0 := Lib.hid h
  obtain ⟨v0, hv0⟩ : ∃ v, tv r = v := ⟨_, rfl⟩
  obtain ⟨v1, hv1⟩ : ∃ v, tv (tk r) = v := ⟨_, rfl⟩
  obtain ⟨v2, hv2⟩ : ∃ v, tv (tk (tk r)) = v := ⟨_, rfl⟩
  obtain ⟨y, hy⟩ : ∃ y, rv (tk (tk (tk r))) = y := ⟨_, rfl⟩
  obtain ⟨z, hyz⟩ : ∃ z, y.length = z := ⟨_, rfl⟩
  have HT : Hid (takeM r = ⟨v0, v1, v2, y⟩) := by show _ = _; rw [← hv0, ← hv1, ← hv2, ← hy]; rfl
  have HZ := Lib.hid hyz
  have hm0 := Bk.new (w.alloc (.cells #[.int .i64 0, .int .i64 0, .int .i64 0, .slice none 0 0] 62)) 62 #[.int .i64 0, .int .i64 0, .int .i64 0, .slice none 0 0]
  rw [World.size_alloc] at hm0
  have hx0 := (Bk.new w 62 #[.int .i64 0, .int .i64 0, .int .i64 0, .slice none 0 0]).alloc (.cells #[.int .i64 0, .int .i64 0, .int .i64 0, .slice none 0 0] 62)
  have ho1 : Only [] w ((w.alloc (.cells #[.int .i64 0, .int .i64 0, .int .i64 0, .slice none 0 0] 62)).alloc (.cells #[.int .i64 0, .int .i64 0, .int .i64 0, .slice none 0 0] 62)) := ((Only.refl [] w).alloc _).alloc _
  have HN := Lib.hid (fun (W : World) (ow : Only [] w W) (hW : w.heap.size + 2 = W.heap.size) (hm : Bk W (w.heap.size + 1) 62 #[.int .i64 0, .int .i64 0, .int .i64 0, .slice none 0 0]) => by
    have o1 : Only [] W (W.alloc (.cells #[.pointer (some ⟨w.heap.size + 1, 0, none⟩), .pointer (some ⟨w.heap.size + 1, 1, none⟩), .pointer (some ⟨w.heap.size + 1, 2, none⟩)] 81)) := (Only.refl [] W).alloc _
    have hn := rnumsF_any (r := r) [w.heap.size + 1] (FM (w.heap.size + 1) (tv r) (tv (tk r)) (tv (tk (tk r)))) ((HR0.out.keep ow).keep o1) (Bk.new W 81 #[.pointer (some ⟨w.heap.size + 1, 0, none⟩), .pointer (some ⟨w.heap.size + 1, 1, none⟩), .pointer (some ⟨w.heap.size + 1, 2, none⟩)]) ⟨by simp, by simp, by simp⟩ (by simp; omega) (by simp; omega) (by simp; omega) (hm.only o1 (by simp))
      (fun k W W' o hF => by
        match k, hF with
        | 0, hF => exact Bk.only hF o (by simp; omega)
        | 1, hF => exact Bk.only hF o (by simp; omega)
        | 2, hF => exact Bk.only hF o (by simp; omega)
        | n + 3, hF => exact Bk.only hF o (by simp; omega))
      (fun W hF => ⟨⟨_, Bk.cell hF 0⟩, Bk.free hF 0, by have := Bk.set hF 0 (.int .i64 (tv r)); simpa [FM] using this⟩)
      (fun W hF => ⟨⟨_, Bk.cell hF 1⟩, Bk.free hF 1, by have := Bk.set hF 1 (.int .i64 (tv (tk r))); simpa [FM] using this⟩)
      (fun W hF => ⟨⟨_, Bk.cell hF 2⟩, Bk.free hF 2, by have := Bk.set hF 2 (.int .i64 (tv (tk (tk r)))); simpa [FM] using this⟩)
    rw [hv0, hv1, hv2] at hn
    have hq : ∀ e w', (e = Ending.returned (.tuple #[]) ∧ ∃ A' c', Rd w' g kb A' c' (tk (tk (tk r))).1 (tk (tk (tk r))).2 ∧ FM (w.heap.size + 1) v0 v1 v2 3 w' ∧ Only [g, w.heap.size + 1] (W.alloc (.cells #[.pointer (some ⟨w.heap.size + 1, 0, none⟩), .pointer (some ⟨w.heap.size + 1, 1, none⟩), .pointer (some ⟨w.heap.size + 1, 2, none⟩)] 81)) w') → (e = .returned (.tuple #[]) ∧ (∃ A' c', Rd w' g kb A' c' (tk (tk (tk r))).1 (tk (tk (tk r))).2) ∧ Bk w' (w.heap.size + 1) 62 #[.int .i64 v0, .int .i64 v1, .int .i64 v2, .slice none 0 0] ∧ Only [g, w.heap.size + 1] W w') := fun e w' ⟨h1, A', c', h2, h3, h4⟩ => ⟨h1, ⟨A', c', h2⟩, h3, (o1.mono (ss := [g, w.heap.size + 1]) (fun _ hx => nomatch hx)).trans h4 (fun x hx => .inl hx)⟩
    exact hn.mono hq)
  have hn1 := HN.out _ ho1 (by simp) hm0
  rw [World.size_alloc, World.size_alloc] at hn1
  have HN1 := Lib.hid hn1
  have HB := Lib.hid (fun (W : World) (A' : Option Addr) (c' : Nat) (hr : Rd W g kb A' c' (tk (tk (tk r))).1 (tk (tk (tk r))).2) => by
    have hh := rbytes_any hr
    unfold TookRow at hh
    have e : rowTook (tk (tk (tk r))).1 (tk (tk (tk r))).2 = y := hy
    rw [e, hyz] at hh
    exact hh)
  have HO1 := Lib.hid ho1
  have HX0 := Lib.hid hx0
  clear h hv0 hv1 hv2 hyz hn1 HN ho1 hx0 hm0 hy
  go_enter Try.func50, Try.ntmps50
  go_wp2_with (first
    | (go_at_call 47; go_must (refine HN1.out.mono ?_); rintro e w3 ⟨rfl, ⟨A3, c3, R3⟩, M3, O3⟩; have X3 := HX0.out.only O3 (by simp; omega))
    | (go_at_call 46; go_must (refine (HB.out _ A3 c3 R3).mono ?_); rintro e w4 ⟨P, cp, A4, c4, rfl, V4, F4, R4, O4⟩; have X4 := X3.only O4 (by simp; omega); have M4 := M3.only O4 (by simp; omega); obtain ⟨m0, m1, m2, m3⟩ := bk_four M4; obtain ⟨x0, x1, x2, x3⟩ := bk_four X4; have mf3 := M4.free 3; have xf0 := X4.free 0; have xf1 := X4.free 1; have xf2 := X4.free 2; have xf3 := X4.free 3; have ml := M4.lt; have xl := X4.lt))
  have Q3 := (HO1.out.mono (ss := [g]) (fun _ hx => nomatch hx)).trans O3 (fun x hx => by
    simp only [List.mem_cons, List.not_mem_nil, or_false] at hx
    rcases hx with rfl | rfl
    · exact .inl (by simp)
    · exact .inr (by omega))
  have O5 := (Q3.trans O4 (fun x hx => .inl hx)).setCell (p := ⟨w.heap.size + 1, 3, none⟩) (.inr (Nat.le_succ _)) (.slice P z cp)
  have O6 := only_store O5 (g := w.heap.size) (.inr (Nat.le_refl _)) (.int .i64 v0) (.int .i64 v1) (.int .i64 v2) (.slice P z cp)
  have Ow : Only [w.heap.size + 1, w.heap.size] w4 _ := only_store (((Only.refl [w.heap.size + 1, w.heap.size] w4).setCell (p := ⟨w.heap.size + 1, 3, none⟩) (.inl (by simp)) (.slice P z cp))) (g := w.heap.size) (.inl (by simp)) (.int .i64 v0) (.int .i64 v1) (.int .i64 v2) (.slice P z cp)
  have hw3 : w.heap.size + 1 < w3.heap.size := M3.lt
  refine msg_ret (s := 2) (by kernel_rfl) w.heap.size _ _ _ _ rfl (bk_store (X4.far (p := ⟨w.heap.size + 1, 3, none⟩) (by simp) _) _ _ _ _) ?_
  refine ⟨P, cp, A4, c4, by rw [HT.out, HZ.out], ?_, ?_, R4.only Ow (by simp; omega) (by simp; omega), O6⟩
  · rw [HT.out, HZ.out]
    exact V4.only Ow (fun k hk => by have := F4 k hk; simp; omega)
  · exact fun k hk => Nat.le_trans (by omega) (F4 k hk)
end Go.Proofs.Ythaodlegpjedoaa
/-
  box.Decode: what always holds in its loop's drawn region; the plain part.
-/
namespace Go.Proofs.Ythaodlegpjedoaa
open Go.RowKit Go.Instr

/-! ### The plain part -/
theorem takeL_succ : ∀ (k : Nat) (s : RS), (restL k s).1 = false → takeL (k + 1) s = takeL k s ++ [takeM (restL k s)] ∧ restL (k + 1) s = restM (restL k s)
  | 0, s, h => by
    have hs : s.1 = false := h
    simp [takeL, restL, hs]
  | k + 1, s, h => by
    have hs := restL_bad h
    have h' : (restL k (restM s)).1 = false := by
      unfold restL at h
      rw [hs] at h
      simpa using h
    obtain ⟨a, b⟩ := takeL_succ k (restM s) h'
    have e1 : takeL (k + 1 + 1) s = takeM s :: takeL (k + 1) (restM s) := by rw [takeL, hs]; rfl
    have e2 : takeL (k + 1) s = takeM s :: takeL k (restM s) := by rw [takeL, hs]; rfl
    have e3 : restL (k + 1) s = restL k (restM s) := by rw [restL, hs]; rfl
    have e4 : restL (k + 1 + 1) s = restL (k + 1) (restM s) := by rw [restL, hs]; rfl
    exact ⟨by rw [e1, a, e2, e3]; rfl, by rw [e4, b, e3]⟩
theorem restL_stuck : ∀ (k j : Nat) (s : RS), (restL k s).1 = true → (restL (k + j) s).1 = true
  | 0, 0, _, h => h
  | 0, j + 1, s, h => by
    have hs : s.1 = true := h
    rw [Nat.zero_add, restL, hs]
    exact hs
  | k + 1, j, s, h => by
    rw [show k + 1 + j = k + j + 1 by omega]
    cases hs : s.1
    · have e3 : restL (k + 1) s = restL k (restM s) := by rw [restL, hs]; rfl
      have e4 : restL (k + j + 1) s = restL (k + j) (restM s) := by rw [restL, hs]; rfl
      rw [e4]
      rw [e3] at h
      exact restL_stuck k j (restM s) h
    · rw [restL, hs]
      exact hs
/-- What Decode answers, as a value. -/
def zeroB : Bx := ⟨[], 0, 0, []⟩
def decB (p : List UInt8) : Bx × Int := match decO p with
  | some b => (b, 0)
  | none => (zeroB, 3)
theorem decB_none {p : List UInt8} (h : decO p = none) : decB p = (zeroB, 3) := by unfold decB; rw [h]
theorem decB_some {p : List UInt8} {b : Bx} (h : decO p = some b) : decB p = (b, 0) := by unfold decB; rw [h]
theorem decO_many {p : List UInt8} (h : 24 < cnt p) : decO p = none := by unfold decO; rw [if_pos h]
theorem decO_bad {p : List UInt8} {k : Nat} (hk : (k : Int) ≤ cnt p) (h : (restL k (body0 p)).1 = true) : decO p = none := by
  unfold decO
  split
  · rfl
  · have e : (cnt p).toNat = k + ((cnt p).toNat - k) := by omega
    have := restL_stuck k ((cnt p).toNat - k) (body0 p) h
    rw [← e] at this
    have hw : wholeS (restL (cnt p).toNat (body0 p)) = false := by unfold wholeS; rw [this]; rfl
    rw [hw]
    rfl
theorem decO_at {p : List UInt8} {k : Nat} (hk : (k : Int) = cnt p) (h : cnt p ≤ 24) : decO p = if wholeS (restL k (body0 p)) && isB (boxOf p k) then some (boxOf p k) else none := by
  unfold decO
  rw [if_neg (by omega), ← hk, Int.toNat_natCast]

/-! ### The region -/
theorem inv_vall {P : Program} {ops : Array Oper} {I : (Nat → Bool) → (Nat → Value) → World → Prop} {Q : Exit → Act → World → Prop} {vs : Nat → Value} {pl : List (Option Value)} {o : Oper} {l : List Oper} {k : Nat} {a : Act} (v : Value) (hw : Region.wanted o (yielded ops a.tmps) = true) (hI : ∀ L w, I L vs w → I (updN L k true) vs w) (hy : ∀ L w, I L vs w → L k = false → (execOp a.eval o).run P w = .ok (.value v) w)
    (hk : inv2Walk P ops I Q vs pl l (k + 1) (a.put o.dst v)) : inv2Walk P ops I Q vs (some v :: pl) (o :: l) k a :=
  ⟨fun L w h hl _ => .inl ⟨hw, gives_value (hy L w h hl) ⟨rfl, hI L w h⟩ trivial⟩, hk⟩
/-- What always holds: 1 loads the list, 3 takes a message, 4 lays it in a block, 5 appends it, 7 lays the list in the box. -/
def DecI (w0 : World) (S : Nat → Prop) (g kb p : Nat) (t : ByteArray) (v x : Int) (Ar : Option Addr) (cr : Nat) (s s' : RS) (A : Option Addr) (k c : Nat) (l : List Mg) (m : Mg) (L : Nat → Bool) (vs : Nat → Value) (w : World) : Prop :=
  Only (g :: p :: blks A) w0 w ∧ ((L 4 = true → L 3 = true) ∧ (L 5 = true → L 1 = true ∧ L 4 = true) ∧ (L 7 = true → L 5 = true)) ∧
  ((L 3 = false → Rd w g kb Ar cr s.1 s.2) ∧ (L 3 = true → ∃ A' c', Rd w g kb A' c' s'.1 s'.2)) ∧
  (L 7 = false → Bk w p 26 #[.string t, .int .i64 v, .int .i64 x, .slice A k c]) ∧
  (L 5 = false → Mo S w A k c l ∧ (L 3 = true → ∃ P cp, vs 3 = .agg #[.int .i64 m.uid, .int .i64 m.flags, .int .i64 m.date, .slice P m.body.length cp] ∧ Sl w P m.body.length (bvs m.body) ∧ (0 < m.body.length → ∀ ad, P = some ad → w0.heap.size ≤ ad.block)) ∧
    (L 4 = true → ∃ k4, vs 4 = .slice (some ⟨k4, 0, none⟩) 1 1 ∧ Ms (fun y => w0.heap.size ≤ y) w (some ⟨k4, 0, none⟩) 1 [m])) ∧
  (L 5 = true → ∃ A' c', vs 5 = .slice A' (k + 1) c' ∧ Mo S w A' (k + 1) c' (l ++ [m]) ∧ (L 7 = true → Bk w p 26 #[.string t, .int .i64 v, .int .i64 x, .slice A' (k + 1) c']))
section
variable {w0 w w' : World} {S : Nat → Prop} {g kb p : Nat} {t : ByteArray} {v x : Int} {Ar : Option Addr} {cr : Nat} {s s' : RS} {A : Option Addr} {k c : Nat} {l : List Mg} {m : Mg} {L : Nat → Bool} {vs : Nat → Value}
theorem DecI.start (h1 : Rd w0 g kb Ar cr s.1 s.2) (h2 : Bk w0 p 26 #[.string t, .int .i64 v, .int .i64 x, .slice A k c]) (h3 : Mo S w0 A k c l) (vs : Nat → Value) : DecI w0 S g kb p t v x Ar cr s s' A k c l m (fun _ => false) vs w0.drew := by
  have o : Only [] w0 w0.drew := (Only.refl [] w0).drew
  exact ⟨(Only.refl _ w0).drew, ⟨(fun e => by cases e), (fun e => by cases e), fun e => by cases e⟩, ⟨fun _ => h1.keep o, fun e => by cases e⟩, fun _ => h2.only o (by simp), fun _ => ⟨h3.keep o, (fun e => by cases e), fun e => by cases e⟩, fun e => by cases e⟩
theorem DecI.pure {j : Nat} (h : DecI w0 S g kb p t v x Ar cr s s' A k c l m L vs w) (hj : 3 ≠ j ∧ 4 ≠ j ∧ 5 ≠ j ∧ 7 ≠ j) : DecI w0 S g kb p t v x Ar cr s s' A k c l m (updN L j true) vs w := by
  obtain ⟨h0, ⟨a, b, d⟩, h2, h3, h4, h5⟩ := h
  unfold DecI
  simp only [updN_ne _ _ hj.1, updN_ne _ _ hj.2.1, updN_ne _ _ hj.2.2.1, updN_ne _ _ hj.2.2.2]
  refine ⟨h0, ⟨a, fun e => ⟨?_, (b e).2⟩, d⟩, h2, h3, h4, h5⟩
  by_cases hj1 : j = 1
  · subst hj1
    exact updN_self _ _ _
  · rw [updN_ne _ _ (fun e => hj1 e.symm)]
    exact (b e).1
theorem DecI.load (h : DecI w0 S g kb p t v x Ar cr s s' A k c l m L vs w) (hL : L 1 = false) : Bk w p 26 #[.string t, .int .i64 v, .int .i64 x, .slice A k c] := by
  refine h.2.2.2.1 ?_
  cases e : L 7 with
  | false => rfl
  | true =>
    have := (h.2.1.2.1 (h.2.1.2.2 e)).1
    rw [hL] at this
    cases this
theorem DecI.no4 (h : DecI w0 S g kb p t v x Ar cr s s' A k c l m L vs w) (hL : L 3 = false) : L 4 = false := by
  cases e : L 4 with
  | false => rfl
  | true => have := h.2.1.1 e; rw [hL] at this; cases this
theorem DecI.no5 (h : DecI w0 S g kb p t v x Ar cr s s' A k c l m L vs w) (hL : L 4 = false) : L 5 = false := by
  cases e : L 5 with
  | false => rfl
  | true => have := (h.2.1.2.1 e).2; rw [hL] at this; cases this
theorem DecI.no7 (h : DecI w0 S g kb p t v x Ar cr s s' A k c l m L vs w) (hL : L 5 = false) : L 7 = false := by
  cases e : L 7 with
  | false => rfl
  | true => have := h.2.1.2.2 e; rw [hL] at this; cases this
theorem DecI.rd (h : DecI w0 S g kb p t v x Ar cr s s' A k c l m L vs w) (hL : L 3 = false) : Rd w g kb Ar cr s.1 s.2 := h.2.2.1.1 hL
/-- The message is taken. -/
theorem DecI.took {e : Ending} (h : DecI w0 S g kb p t v x Ar cr s s' A k c l m L vs w) (hL : L 3 = false) (hS : ∀ y, S y → y ≠ g ∧ y ≠ kb ∧ y ≠ p) (hp : p ≠ g) (ht : TookMg w g kb m s' e w') : ∃ u, e = .returned u ∧ DecI w0 S g kb p t v x Ar cr s s' A k c l m (updN L 3 true) (updN vs 3 u) w' := by
  obtain ⟨P, cp, A', c', e1, e2, e3, e4, e5⟩ := ht
  have l4 := h.no4 hL
  have l5 := h.no5 l4
  have l7 := h.no7 l5
  obtain ⟨h0, ⟨a, b, d⟩, h2, h3, h4, h5⟩ := h
  refine ⟨_, e1, ?_⟩
  unfold DecI
  simp only [updN_self, updN_ne _ _ (show (1 : Nat) ≠ 3 by decide), updN_ne _ _ (show (4 : Nat) ≠ 3 by decide), updN_ne _ _ (show (5 : Nat) ≠ 3 by decide), updN_ne _ _ (show (7 : Nat) ≠ 3 by decide)]
  refine ⟨h0.trans e5 (fun y hy => .inl (by simp at hy; simp [hy])), ⟨fun _ => trivial, b, d⟩, ⟨(fun e => by cases e), fun _ => ⟨A', c', e4⟩⟩, fun e => (h3 e).only e5 (by simpa using hp), fun e => ⟨(h4 e).1.only e5 (fun y hy => by have := (hS y hy).1; simpa using this), fun _ => ⟨P, cp, rfl, e2.sl, fun hpos ad ea => ?_⟩, fun e => by rw [l4] at e; cases e⟩, fun e => by rw [l5] at e; cases e⟩
  subst ea
  exact Nat.le_trans h0.size (e3 _ (by simp))
/-- It is laid in a block. -/
theorem DecI.laid (h : DecI w0 S g kb p t v x Ar cr s s' A k c l m L vs w) (hL : L 4 = false) (h3t : L 3 = true) :
    ∃ P cp, vs 3 = .agg #[.int .i64 m.uid, .int .i64 m.flags, .int .i64 m.date, .slice P m.body.length cp] ∧
      DecI w0 S g kb p t v x Ar cr s s' A k c l m (updN L 4 true) (updN vs 4 (.slice (some ⟨w.heap.size, 0, none⟩) 1 1)) (w.alloc (.cells #[.int .i64 m.uid, .int .i64 m.flags, .int .i64 m.date, .slice P m.body.length cp] 62)) := by
  have l5 := h.no5 hL
  obtain ⟨h0, ⟨a, b, d⟩, h2, h3, h4, h5⟩ := h
  obtain ⟨M, q3, _⟩ := h4 l5
  obtain ⟨P, cp, e1, e2, e3⟩ := q3 h3t
  have o : Only [] w (w.alloc (.cells #[.int .i64 m.uid, .int .i64 m.flags, .int .i64 m.date, .slice P m.body.length cp] 62)) := (Only.refl [] w).alloc _
  refine ⟨P, cp, e1, ?_⟩
  unfold DecI
  simp only [updN_self, updN_ne _ _ (show (1 : Nat) ≠ 4 by decide), updN_ne _ _ (show (3 : Nat) ≠ 4 by decide), updN_ne _ _ (show (5 : Nat) ≠ 4 by decide), updN_ne _ _ (show (7 : Nat) ≠ 4 by decide)]
  refine ⟨h0.then o, ⟨fun _ => h3t, (fun e => by rw [l5] at e; cases e), d⟩, ⟨(fun e => by rw [h3t] at e; cases e), fun e => by obtain ⟨A', c', r⟩ := h2.2 e; exact ⟨A', c', r.keep o⟩⟩, fun e => (h3 e).only o (by simp), fun e => ⟨M.keep o, fun _ => ⟨P, cp, e1, e2.keep o, e3⟩, fun _ => ⟨_, rfl, Ms.of_bk (Bk.new w _ _) h0.size (e2.keep o) e3⟩⟩, fun e => by rw [l5] at e; cases e⟩
/-- It is appended. -/
theorem DecI.more {A' : Option Addr} {c' : Nat} (h : DecI w0 S g kb p t v x Ar cr s s' A k c l m L vs w) (hL : L 5 = false) (h1t : L 1 = true) (h4t : L 4 = true) (hS : ∀ y, S y → y ≠ g ∧ y ≠ kb ∧ y ≠ p) (o : Only (blks A) w w') (hM : Mo S w' A' (k + 1) c' (l ++ [m])) :
    DecI w0 S g kb p t v x Ar cr s s' A k c l m (updN L 5 true) (updN vs 5 (.slice A' (k + 1) c')) w' := by
  have l7 := h.no7 hL
  have h3t := h.2.1.1 h4t
  obtain ⟨h0, ⟨a, b, d⟩, h2, h3, h4, h5⟩ := h
  have hA := (h4 hL).1.2.1
  unfold DecI
  simp only [updN_self, updN_ne _ _ (show (1 : Nat) ≠ 5 by decide), updN_ne _ _ (show (3 : Nat) ≠ 5 by decide), updN_ne _ _ (show (4 : Nat) ≠ 5 by decide), updN_ne _ _ (show (7 : Nat) ≠ 5 by decide)]
  refine ⟨h0.trans o (fun y hy => .inl (by simp [hy])), ⟨a, fun _ => ⟨h1t, h4t⟩, fun _ => trivial⟩, ⟨(fun e => by rw [h3t] at e; cases e), fun e => by obtain ⟨A2, c2, r⟩ := h2.2 e; exact ⟨A2, c2, r.only o (fun hh => (hS _ (hA _ hh)).1 rfl) (fun hh => (hS _ (hA _ hh)).2.1 rfl)⟩⟩, fun e => (h3 e).only o (fun hh => (hS _ (hA _ hh)).2.2 rfl), (fun e => by cases e), fun _ => ⟨A', c', rfl, hM, fun e => by rw [l7] at e; cases e⟩⟩
/-- The list is laid in the box. -/
theorem DecI.store (h : DecI w0 S g kb p t v x Ar cr s s' A k c l m L vs w) (hL : L 7 = false) (h5t : L 5 = true) (hS : ∀ y, S y → y ≠ g ∧ y ≠ kb ∧ y ≠ p) (hpg : p ≠ g) (hpk : p ≠ kb) {u : Value} :
    ∃ A' c', vs 5 = .slice A' (k + 1) c' ∧ Bk w p 26 #[.string t, .int .i64 v, .int .i64 x, .slice A k c] ∧ DecI w0 S g kb p t v x Ar cr s s' A k c l m (updN L 7 true) (updN vs 7 u) (w.setCell ⟨p, 3, none⟩ (.slice A' (k + 1) c')) := by
  have h3t := h.2.1.1 (h.2.1.2.1 h5t).2
  obtain ⟨h0, ⟨a, b, d⟩, h2, h3, h4, h5⟩ := h
  obtain ⟨A', c', e1, e2, _⟩ := h5 h5t
  have o : Only [p] w (w.setCell ⟨p, 3, none⟩ (.slice A' (k + 1) c')) := (Only.refl [p] w).setCell (.inl (by simp)) _
  refine ⟨A', c', e1, h3 hL, ?_⟩
  unfold DecI
  simp only [updN_self, updN_ne _ _ (show (1 : Nat) ≠ 7 by decide), updN_ne _ _ (show (3 : Nat) ≠ 7 by decide), updN_ne _ _ (show (4 : Nat) ≠ 7 by decide), updN_ne _ _ (show (5 : Nat) ≠ 7 by decide)]
  refine ⟨h0.trans o (fun y hy => .inl (by simp at hy; simp [hy])), ⟨a, b, fun _ => h5t⟩, ⟨(fun e => by rw [h3t] at e; cases e), fun e => by obtain ⟨A2, c2, r⟩ := h2.2 e; exact ⟨A2, c2, r.only o (by simpa using hpg.symm) (by simpa using hpk.symm)⟩⟩, (fun e => by cases e), (fun e => by rw [h5t] at e; cases e), fun _ => ⟨A', c', e1, e2.only o (fun y hy => by have := (hS y hy).2.2; simpa using this), fun _ => by simpa using (h3 hL).set 3 (.slice A' (k + 1) c')⟩⟩
theorem DecI.end_ (h : DecI w0 S g kb p t v x Ar cr s s' A k c l m L vs w) (h3 : L 3 = true) (h5 : L 5 = true) (h7 : L 7 = true) :
    ∃ A' c' A2 c2, vs 5 = .slice A' (k + 1) c' ∧ Rd w g kb A2 c2 s'.1 s'.2 ∧ Bk w p 26 #[.string t, .int .i64 v, .int .i64 x, .slice A' (k + 1) c'] ∧ Mo S w A' (k + 1) c' (l ++ [m]) ∧ Only (g :: p :: blks A) w0 w := by
  obtain ⟨A2, c2, r⟩ := h.2.2.1.2 h3
  obtain ⟨A', c', e1, e2, e3⟩ := h.2.2.2.2.2 h5
  exact ⟨A', c', A2, c2, e1, r, e3 h7, e2, h.1⟩
end
end Go.Proofs.Ythaodlegpjedoaa
/-
  box.Same: two mailboxes, message by message (slices.EqualFunc, sameMessage, bytes.Equal).
-/
namespace Go.Proofs.Ythaodlegpjedoaa
open Go.RowKit Go.Instr

theorem EqualB_any {w : World} {A1 A2 : Option Addr} {n1 n2 : Nat} {y1 y2 : List UInt8} (h1 : Sl w A1 n1 (bvs y1)) (h2 : Sl w A2 n2 (bvs y2)) (c1 c2 : Nat) :
    Calls Try.prog 81 #[.slice A1 n1 c1, .slice A2 n2 c2] w fun e w' => e = .returned (.bool (y1 == y2)) ∧ w = w' := by
  have cv1 := str_at h1 c1
  have cv2 := str_at h2 c2
  have hte := St_eq y1 y2
  generalize St y1 = t1 at cv1 hte
  generalize St y2 = t2 at cv2 hte
  generalize (y1 == y2) = b at hte
  clear h1 h2
  go_enter Try.func81, Try.ntmps81
  go_wp2
  go_ret
  exact ⟨rfl, rfl⟩
def sameM (p q : Mg) : Bool := decide (p = q)
set_option maxRecDepth 100000 in
set_option maxHeartbeats 4000000 in
theorem sameMessage_any {w : World} (p q : Mg) (A1 A2 : Option Addr) (c1 c2 : Nat) (h1 : Sl w A1 p.body.length (bvs p.body)) (h2 : Sl w A2 q.body.length (bvs q.body)) :
    Calls Try.prog 58 #[.agg #[.int .i64 p.uid, .int .i64 p.flags, .int .i64 p.date, .slice A1 p.body.length c1], .agg #[.int .i64 q.uid, .int .i64 q.flags, .int .i64 q.date, .slice A2 q.body.length c2]] w fun e w' => e = .returned (.bool (sameM p q)) ∧ Only [] w w' := by
  obtain ⟨r, hr⟩ : ∃ r, sameM p q = r := ⟨_, rfl⟩
  rw [hr]
  obtain ⟨u1, f1, d1, y1⟩ := p
  obtain ⟨u2, f2, d2, y2⟩ := q
  simp only at h1 h2 ⊢
  generalize y1.length = z1 at h1
  generalize y2.length = z2 at h2
  have HE := Lib.hid (fun (W : World) (o : Only [] w W) => EqualB_any (h1.keep o) (h2.keep o) c1 c2)
  have B1 := (Bk.new w 62 #[.int .i64 u1, .int .i64 f1, .int .i64 d1, .slice A1 z1 c1]).alloc (.cells #[.int .i64 u2, .int .i64 f2, .int .i64 d2, .slice A2 z2 c2] 62)
  have B2 := Bk.new (w.alloc (.cells #[.int .i64 u1, .int .i64 f1, .int .i64 d1, .slice A1 z1 c1] 62)) 62 #[.int .i64 u2, .int .i64 f2, .int .i64 d2, .slice A2 z2 c2]
  rw [World.size_alloc] at B2
  have hO : Only [] w ((w.alloc (.cells #[.int .i64 u1, .int .i64 f1, .int .i64 d1, .slice A1 z1 c1] 62)).alloc (.cells #[.int .i64 u2, .int .i64 f2, .int .i64 d2, .slice A2 z2 c2] 62)) := ((Only.refl _ _).alloc _).alloc _
  have HO := Lib.hid hO
  obtain ⟨m0, m1, m2, m3⟩ := bk_four B1
  obtain ⟨q0, q1, q2, q3⟩ := bk_four B2
  obtain ⟨b1, hb1⟩ : ∃ b, (u1 == u2) = b := ⟨_, rfl⟩
  obtain ⟨b2, hb2⟩ : ∃ b, (f1 == f2) = b := ⟨_, rfl⟩
  obtain ⟨b3, hb3⟩ : ∃ b, (d1 == d2) = b := ⟨_, rfl⟩
  obtain ⟨b4, hb4⟩ : ∃ b, (y1 == y2) = b := ⟨_, rfl⟩
  rw [hb4] at HE
  have HR : Hid (r = (b1 && b2 && b3 && b4)) := by
    show _ = _
    rw [← hr, ← hb1, ← hb2, ← hb3, ← hb4]
    unfold sameM
    rw [Bool.eq_iff_iff]
    simp [and_assoc]
  clear hb4 hr h1 h2 hO B1 B2
  go_enter Try.func58, Try.ntmps58
  cases b1
  · go_wp2
    go_ret
    exact ⟨by rw [HR.out]; rfl, HO.out⟩
  cases b2
  · go_wp2
    go_ret
    exact ⟨by rw [HR.out]; rfl, HO.out⟩
  cases b3
  · go_wp2
    go_ret
    exact ⟨by rw [HR.out]; rfl, HO.out⟩
  go_wp2_with (go_at_call 81; go_must (refine (HE.out _ HO.out).mono ?_); rintro e w2 ⟨rfl, rfl⟩)
  go_ret
  exact ⟨by rw [HR.out]; rfl, HO.out⟩
theorem enters_same : ∀ args w, (callFunc 58 args).run Try.prog w = .ok (.enter 58 args) w := Go.Proofs.enters_of Try.func58 (by kernel_rfl) rfl
set_option maxRecDepth 100000 in
set_option maxHeartbeats 4000000 in
theorem EqualFunc_any {S S' : Nat → Prop} {w : World} {l1 l2 : List Mg} {A1 A2 : Option Addr} {n1 n2 e1 e2 : Nat} (h1 : Ms S w A1 n1 l1) (h2 : Ms S' w A2 n2 l2) (hn1 : n1 ≤ 140737488355328) :
    Calls Try.prog 57 #[.slice A1 n1 e1, .slice A2 n2 e2, .func (.func 58) #[] #[]] w fun e w' => e = .returned (.bool (decide (l1 = l2))) ∧ Only [] w w' := by
  have eg := enters_same
  have HS1 := Lib.hid h1
  have HS2 := Lib.hid h2
  have HL1 := Lib.hid h1.len
  have HL2 := Lib.hid h2.len
  obtain ⟨r, hr⟩ : ∃ r, decide (l1 = l2) = r := ⟨_, rfl⟩
  rw [hr]
  have HR := Lib.hid hr
  clear h1 h2 hr
  by_cases hne : n1 = n2
  rotate_left
  · have hr : r = false := by
      rw [← HR.out]
      exact decide_eq_false fun e => hne (by rw [← HL1.out, ← HL2.out, e])
    subst hr
    have hn' : ((n1 : Int) != (n2 : Int)) = true := by simp; omega
    go_enter Try.func57, Try.ntmps57
    go_wp2
    go_ret
    exact ⟨rfl, Only.refl _ _⟩
  subst hne
  go_enter Try.func57, Try.ntmps57
  go_wp2
  go_loopw [17] (fun iv wr => Only [] w wr ∧ ∃ k : Nat, iv = .int .i64 (k : Int) ∧ k ≤ n1 ∧ Hid (l1.take k = l2.take k)) (fun iv _ => n1 - (intOf iv).toNat)
  case atStart => exact ⟨Only.refl _ _, 0, rfl, Nat.zero_le _, rfl⟩
  case round =>
    obtain ⟨hO, k, rfl, hk, HK⟩ := hrel
    by_cases hlt : k < n1
    · have hlt' : (k : Int) < (n1 : Int) := by omega
      have hk1 : k < l1.length := by rw [HL1.out]; exact hlt
      have hk2 : k < l2.length := by rw [HL2.out]; exact hlt
      obtain ⟨ad1, Ab1, cb1, rfl, _, hm⟩ := (HS1.out.keep hO).at_ hlt hk1
      obtain ⟨ad2, Ab2, cb2, rfl, _, hq⟩ := (HS2.out.keep hO).at_ hlt hk2
      have hc := Lib.hid (fun (W : World) (o : Only [] wr W) => sameMessage_any l1[k] l2[k] Ab1 Ab2 cb1 cb2 (hm.sl.keep o) (hq.sl.keep o))
      obtain ⟨b, hb⟩ : ∃ b, sameM l1[k] l2[k] = b := ⟨_, rfl⟩
      rw [hb] at hc
      have HNO : Hid (b = false → r = false) := fun e => by
        rw [← HR.out]
        rw [e] at hb
        refine decide_eq_false fun e2 => of_decide_eq_false hb ?_
        subst e2
        rfl
      have HYES : Hid (b = true → l1.take (k + 1) = l2.take (k + 1)) := fun e => by
        rw [e] at hb
        rw [List.take_succ_eq_append_getElem hk1, List.take_succ_eq_append_getElem hk2, HK.out, of_decide_eq_true hb]
      have hOm : Only [] wr ((wr.alloc (.cells #[.int .i64 l1[k].uid, .int .i64 l1[k].flags, .int .i64 l1[k].date, .slice Ab1 l1[k].body.length cb1] 62)).alloc (.cells #[.int .i64 l2[k].uid, .int .i64 l2[k].flags, .int .i64 l2[k].date, .slice Ab2 l2[k].body.length cb2] 62)) := ((Only.refl _ _).alloc _).alloc _
      have B1 := (Bk.new wr 62 #[.int .i64 l1[k].uid, .int .i64 l1[k].flags, .int .i64 l1[k].date, .slice Ab1 l1[k].body.length cb1])
      clear hb
      generalize l1[k] = p1 at hm hc hOm B1
      generalize l2[k] = p2 at hq hc hOm
      obtain ⟨u1, f1, dd1, y1⟩ := p1
      obtain ⟨u2, f2, dd2, y2⟩ := p2
      obtain ⟨m0, m1, m2, m3, _, _⟩ := hm
      obtain ⟨q0, q1, q2, q3, _, _⟩ := hq
      simp only at m0 m1 m2 m3 q0 q1 q2 q3 hc hOm B1
      generalize y1.length = z1 at *
      generalize y2.length = z2 at *
      have B2 := Bk.new (wr.alloc (.cells #[.int .i64 u1, .int .i64 f1, .int .i64 dd1, .slice Ab1 z1 cb1] 62)) 62 #[.int .i64 u2, .int .i64 f2, .int .i64 dd2, .slice Ab2 z2 cb2]
      rw [World.size_alloc] at B2
      have ho1 : Only [] wr (wr.alloc (.cells #[.int .i64 u1, .int .i64 f1, .int .i64 dd1, .slice Ab1 z1 cb1] 62)) := (Only.refl [] wr).alloc _
      replace q0 := ho1.cellSome q0 (by simp)
      replace q1 := ho1.cellSome q1 (by simp)
      replace q2 := ho1.cellSome q2 (by simp)
      replace q3 := ho1.cellSome q3 (by simp)
      clear ho1
      obtain ⟨r0, r1, r2, r3⟩ := bk_four (B1.alloc (.cells #[.int .i64 u2, .int .i64 f2, .int .i64 dd2, .slice Ab2 z2 cb2] 62))
      obtain ⟨s0, s1, s2, s3⟩ := bk_four B2
      have HCC := Lib.hid (hc.out _ hOm)
      have HOM := Lib.hid hOm
      clear hc hOm B1 B2
      cases b
      · obtain rfl := HNO.out rfl
        go_wp2_with (go_at_fn 58; go_must (refine HCC.out.mono ?_); rintro e w2 ⟨rfl, O2⟩)
        go_ret
        exact ⟨rfl, (hO.then HOM.out).then O2⟩
      · go_wp2_with (go_at_fn 58; go_must (refine HCC.out.mono ?_); rintro e w2 ⟨rfl, O2⟩)
        go_roundw
        case rel => exact ⟨(hO.then HOM.out).then O2, k + 1, by go_num, by omega, HYES.out (by trivial)⟩
        case measure => simp [intOf]; omega
    · obtain rfl : k = n1 := by omega
      have hr : r = true := by
        rw [← HR.out]
        have hpre := HK.out
        rw [List.take_of_length_le (by rw [HL1.out]; exact Nat.le_refl _), List.take_of_length_le (by rw [HL2.out]; exact Nat.le_refl _)] at hpre
        exact decide_eq_true hpre
      subst hr
      go_wp2
      go_ret
      exact ⟨rfl, hO⟩
set_option maxRecDepth 100000 in
set_option maxHeartbeats 4000000 in
theorem Same_any {S S' : Nat → Prop} {w : World} (b1 b2 : Bx) {A1 A2 : Option Addr} {e1 e2 : Nat} (h1 : Ms S w A1 b1.l.length b1.l) (h2 : Ms S' w A2 b2.l.length b2.l) (hn1 : b1.l.length ≤ 140737488355328) :
    Calls Try.prog 25 #[bxv b1 A1 e1, bxv b2 A2 e2] w fun e w' => e = .returned (.bool (sameB b1 b2)) ∧ Only [] w w' := by
  obtain ⟨s1, v1, x1, l1⟩ := b1
  obtain ⟨s2, v2, x2, l2⟩ := b2
  obtain ⟨n1, hl1⟩ : ∃ n, l1.length = n := ⟨_, rfl⟩
  obtain ⟨n2, hl2⟩ : ∃ n, l2.length = n := ⟨_, rfl⟩
  simp only at h1 h2 hn1
  rw [bxv_eq hl1, bxv_eq hl2]
  rw [hl1] at h1 hn1
  rw [hl2] at h2
  have hO1 : Only [] w ((w.alloc (.cells #[.string (St s1), .int .i64 v1, .int .i64 x1, .slice A1 n1 e1] 26)).alloc (.cells #[.string (St s2), .int .i64 v2, .int .i64 x2, .slice A2 n2 e2] 26)) := ((Only.refl _ _).alloc _).alloc _
  have B1 := (Bk.new w 26 #[.string (St s1), .int .i64 v1, .int .i64 x1, .slice A1 n1 e1]).alloc (.cells #[.string (St s2), .int .i64 v2, .int .i64 x2, .slice A2 n2 e2] 26)
  have B2 := Bk.new (w.alloc (.cells #[.string (St s1), .int .i64 v1, .int .i64 x1, .slice A1 n1 e1] 26)) 26 #[.string (St s2), .int .i64 v2, .int .i64 x2, .slice A2 n2 e2]
  rw [World.size_alloc] at B2
  have HC := Lib.hid (EqualFunc_any (e1 := e1) (e2 := e2) (h1.keep hO1) (h2.keep hO1) hn1)
  have HO := Lib.hid hO1
  have hte := St_eq s1 s2
  obtain ⟨b4, hb4⟩ : ∃ b, decide (l1 = l2) = b := ⟨_, rfl⟩
  rw [hb4] at HC
  obtain ⟨b1, hb1⟩ : ∃ b, (s1 == s2) = b := ⟨_, rfl⟩
  obtain ⟨b2, hb2⟩ : ∃ b, (v1 == v2) = b := ⟨_, rfl⟩
  obtain ⟨b3, hb3⟩ : ∃ b, (x1 == x2) = b := ⟨_, rfl⟩
  obtain ⟨r, hr⟩ : ∃ r, sameB ⟨s1, v1, x1, l1⟩ ⟨s2, v2, x2, l2⟩ = r := ⟨_, rfl⟩
  rw [hr]
  have HR : Hid (r = (b1 && b2 && b3 && b4)) := by
    show _ = _
    rw [← hr, ← hb1, ← hb2, ← hb3, ← hb4]
    unfold sameB
    rw [Bool.eq_iff_iff]
    simp [and_assoc]
  obtain ⟨c0, c1, c2, c3⟩ := bk_four B1
  obtain ⟨d0, d1, d2, d3⟩ := bk_four B2
  rw [hb1] at hte
  generalize St s1 = t1 at *
  generalize St s2 = t2 at *
  clear h1 h2 hO1 B1 B2 hl1 hl2 hr hb4 hb1
  go_enter Try.func25, Try.ntmps25
  cases b1
  · go_wp2
    go_ret
    exact ⟨by rw [HR.out]; rfl, HO.out⟩
  cases b2
  · go_wp2
    go_ret
    exact ⟨by rw [HR.out]; rfl, HO.out⟩
  cases b3
  · go_wp2
    go_ret
    exact ⟨by rw [HR.out]; rfl, HO.out⟩
  go_wp2_with (go_at_call 57; go_must (refine HC.out.mono ?_); rintro e w2 ⟨rfl, O2⟩)
  go_ret
  exact ⟨by rw [HR.out]; rfl, HO.out.then O2⟩
end Go.Proofs.Ythaodlegpjedoaa
