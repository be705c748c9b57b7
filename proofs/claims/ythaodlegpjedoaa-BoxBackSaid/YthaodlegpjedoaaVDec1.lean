/-
  octet's Reader into three places; box.message.
-/
import Derived.Test.YthaodlegpjedoaaVMath
import Derived.Test.YthaodlegpjedoaaVMem
import Derived.Test.YthaodlegpjedoaaVLeaf
import Derived.Test.YthaodlegpjedoaaVAdd
namespace Go.Proofs.Ythaodlegpjedoaa
open Go.RowKit Go.Instr

set_option maxRecDepth 100000 in
set_option maxHeartbeats 2000000 in
/-- Three numbers into three places; F tells what the places hold behind k of them. -/
theorem rnumsF_any {w : World} {g kb s b0 b1 b2 o0 o1 o2 : Nat} {A : Option Addr} {c : Nat} {r : RS} (X : List Nat) (F : Nat → World → Prop) (h : Rd w g kb A c r.1 r.2)
    (hs : Bk w s 81 #[.pointer (some ⟨b0, o0, none⟩), .pointer (some ⟨b1, o1, none⟩), .pointer (some ⟨b2, o2, none⟩)]) (hb : b0 ∈ X ∧ b1 ∈ X ∧ b2 ∈ X) (hg : g ∉ X) (hk : kb ∉ X) (hsX : s ∉ X)
    (h0 : F 0 w) (keep : ∀ k W W', Only [g] W W' → F k W → F k W')
    (f0 : ∀ W, F 0 W → (∃ x, W.cell? ⟨b0, o0, none⟩ = some (.int .i64 x)) ∧ W.frozen? ⟨b0, o0, none⟩ = false ∧ F 1 (W.setCell ⟨b0, o0, none⟩ (.int .i64 (tv r))))
    (f1 : ∀ W, F 1 W → (∃ x, W.cell? ⟨b1, o1, none⟩ = some (.int .i64 x)) ∧ W.frozen? ⟨b1, o1, none⟩ = false ∧ F 2 (W.setCell ⟨b1, o1, none⟩ (.int .i64 (tv (tk r)))))
    (f2 : ∀ W, F 2 W → (∃ x, W.cell? ⟨b2, o2, none⟩ = some (.int .i64 x)) ∧ W.frozen? ⟨b2, o2, none⟩ = false ∧ F 3 (W.setCell ⟨b2, o2, none⟩ (.int .i64 (tv (tk (tk r)))))) :
    Calls Try.prog 47 #[.pointer (some ⟨g, 0, none⟩), .slice (some ⟨s, 0, none⟩) 3 3] w fun e w' => e = .returned (.tuple #[]) ∧ ∃ A' c', Rd w' g kb A' c' (tk (tk (tk r))).1 (tk (tk (tk r))).2 ∧ F 3 w' ∧ Only (g :: X) w w' := by
  have hsg : s ≠ g := hs.ne h.bk (by decide)
  have hsX' : s ∉ g :: X := fun hh => (List.mem_cons.1 hh).elim hsg hsX
  have H1 := Lib.hid f0
  have H2 := Lib.hid f1
  have H3 := Lib.hid f2
  have HK := Lib.hid keep
  have H0 := Lib.hid h0
  have HR0 := Lib.hid h
  have HX := Lib.hid hb
  clear f0 f1 f2 keep h0 hb h
  go_enter Try.func47, Try.ntmps47
  go_wp2
  go_loopw [9] (fun i wr => ∃ k : Nat, k ≤ 3 ∧ i = .int .i64 k ∧ ∃ (q : RS) (A' : Option Addr) (c' : Nat), q = (match k with | 0 => r | 1 => tk r | 2 => tk (tk r) | _ => tk (tk (tk r))) ∧ Rd wr g kb A' c' q.1 q.2 ∧ F k wr ∧ Only (g :: X) w wr) (fun i _ => 3 - (intOf i).toNat)
  case atStart => exact ⟨0, Nat.zero_le _, rfl, r, A, c, rfl, HR0.out, H0.out, Only.refl _ _⟩
  case round =>
    obtain ⟨k, hk3, rfl, q, A', c', hq, HR, HF, HO⟩ := hrel
    have HS := hs.only HO hsX'
    have s0 : wr.cell? ⟨s, 0, none⟩ = some (.pointer (some ⟨b0, o0, none⟩)) := by rw [HS.cell]; rfl
    have s1 : wr.cell? ⟨s, 1, none⟩ = some (.pointer (some ⟨b1, o1, none⟩)) := by rw [HS.cell]; rfl
    have s2 : wr.cell? ⟨s, 2, none⟩ = some (.pointer (some ⟨b2, o2, none⟩)) := by rw [HS.cell]; rfl
    have HNm := Lib.hid (num_any HR)
    have HQ := Lib.hid hq
    have HRO := Lib.hid HR
    clear hq HR HS
    obtain rfl | rfl | rfl | rfl : k = 0 ∨ k = 1 ∨ k = 2 ∨ k = 3 := by omega
    · obtain rfl := HQ.out
      go_wp2_with fail
      refine HNm.out.mono ?_
      rintro e w1 ⟨rfl, A1, c1, R1, O1⟩
      have F1 := HK.out 0 _ _ O1 HF
      obtain ⟨⟨y, ca⟩, fa, fb⟩ := H1.out _ F1
      have hlt := block_lt_of_cell ca
      simp only at hlt
      have HFB := Lib.hid fb
      have HRR := Lib.hid R1
      clear fb F1 R1
      go_wp2_with fail
      go_roundw
      case rel =>
        exact ⟨1, by omega, by go_num, tk q, A1, c1, rfl, HRR.out.only (rs := X) ((Only.refl _ _).setCell (.inl HX.out.1) _) hg hk, HFB.out, (HO.trans O1 (fun x hx => .inl (by simp at hx; simp [hx]))).setCell (.inl (List.mem_cons_of_mem _ HX.out.1)) _⟩
      case measure => simp [intOf]
    · obtain rfl := HQ.out
      go_wp2_with fail
      refine HNm.out.mono ?_
      rintro e w1 ⟨rfl, A1, c1, R1, O1⟩
      have F1 := HK.out 1 _ _ O1 HF
      obtain ⟨⟨y, ca⟩, fa, fb⟩ := H2.out _ F1
      have hlt := block_lt_of_cell ca
      simp only at hlt
      have HFB := Lib.hid fb
      have HRR := Lib.hid R1
      clear fb F1 R1
      go_wp2_with fail
      go_roundw
      case rel =>
        exact ⟨2, by omega, by go_num, tk (tk r), A1, c1, rfl, HRR.out.only (rs := X) ((Only.refl _ _).setCell (.inl HX.out.2.1) _) hg hk, HFB.out, (HO.trans O1 (fun x hx => .inl (by simp at hx; simp [hx]))).setCell (.inl (List.mem_cons_of_mem _ HX.out.2.1)) _⟩
      case measure => simp [intOf]
    · obtain rfl := HQ.out
      go_wp2_with fail
      refine HNm.out.mono ?_
      rintro e w1 ⟨rfl, A1, c1, R1, O1⟩
      have F1 := HK.out 2 _ _ O1 HF
      obtain ⟨⟨y, ca⟩, fa, fb⟩ := H3.out _ F1
      have hlt := block_lt_of_cell ca
      simp only at hlt
      have HFB := Lib.hid fb
      have HRR := Lib.hid R1
      clear fb F1 R1
      go_wp2_with fail
      go_roundw
      case rel =>
        exact ⟨3, by omega, by go_num, tk (tk (tk r)), A1, c1, rfl, HRR.out.only (rs := X) ((Only.refl _ _).setCell (.inl HX.out.2.2) _) hg hk, HFB.out, (HO.trans O1 (fun x hx => .inl (by simp at hx; simp [hx]))).setCell (.inl (List.mem_cons_of_mem _ HX.out.2.2)) _⟩
      case measure => simp [intOf]
    · go_wp2_with fail
      go_end0
      obtain rfl := HQ.out
      exact ⟨rfl, ⟨A', c', HRO.out⟩, HF, HO⟩
theorem infoM : (Try.prog.info? 62).map (·.size) = some 4 := by kernel_rfl
theorem msg_ret {fn : Func} {R : Ending → World → Prop} {tmps : Array Value} {w : World} {s : Nat} (hres : fn.results = #[.cell s 62]) (p : Nat) (a b c d : Value) (h2 : tmps.getD s undef = .pointer (some ⟨p, 0, none⟩))
    (hb : Bk w p 62 #[a, b, c, d]) (hR : R (.returned (.agg #[a, b, c, d])) w) : bodyPost Try.prog fn R .ret { tmps := tmps, defers := [] } w := by
  refine bodyPost_ret (v := .agg #[a, b, c, d]) ?_ rfl hR
  exact results_cell_row hres tmps w p 62 #[a, b, c, d] (0, 0) _ h2 hb Try.underlying62 rfl infoM
/-- The message's cells behind k numbers. -/
def FM (m : Nat) (v0 v1 v2 : Int) : Nat → World → Prop
  | 0, W => Bk W m 62 #[.int .i64 0, .int .i64 0, .int .i64 0, .slice none 0 0]
  | 1, W => Bk W m 62 #[.int .i64 v0, .int .i64 0, .int .i64 0, .slice none 0 0]
  | 2, W => Bk W m 62 #[.int .i64 v0, .int .i64 v1, .int .i64 0, .slice none 0 0]
  | _, W => Bk W m 62 #[.int .i64 v0, .int .i64 v1, .int .i64 v2, .slice none 0 0]
/-- What message answers: a message whose body lies in new memory; the Reader has gone on. -/
def TookMg (w : World) (g kb : Nat) (m : Mg) (r : RS) (e : Ending) (w' : World) : Prop :=
  ∃ P cp A' c', e = .returned (.agg #[.int .i64 m.uid, .int .i64 m.flags, .int .i64 m.date, .slice P m.body.length cp]) ∧ Own w' 5 P m.body.length cp (bvs m.body) ∧ (∀ k ∈ blks P, w.heap.size ≤ k) ∧ Rd w' g kb A' c' r.1 r.2 ∧ Only [g] w w'
set_option maxRecDepth 100000 in
set_option maxHeartbeats 2000000 in
theorem message_any {w : World} {g kb : Nat} {A : Option Addr} {c : Nat} {r : RS} (h : Rd w g kb A c r.1 r.2) :
    Calls Try.prog 50 #[.pointer (some ⟨g, 0, none⟩)] w (TookMg w g kb (takeM r) (restM r)) := by
  have hlt := h.bk.lt
  have hz := h.lt
  have HR0 := Lib.hid h
  obtain ⟨v0, hv0⟩ : ∃ v, tv r = v := ⟨_, rfl⟩
  obtain ⟨v1, hv1⟩ : ∃ v, tv (tk r) = v := ⟨_, rfl⟩
  obtain ⟨v2, hv2⟩ : ∃ v, tv (tk (tk r)) = v := ⟨_, rfl⟩
  obtain ⟨y, hy⟩ : ∃ y, rv (tk (tk (tk r))) = y := ⟨_, rfl⟩
  obtain ⟨z, hyz⟩ : ∃ z, y.length = z := ⟨_, rfl⟩
  have HT : Hid (takeM r = ⟨v0, v1, v2, y⟩) := by show _ = _; rw [← hv0, ← hv1, ← hv2, ← hy]; rfl
  have HZ := Lib.hid hyz
  have hm0 := Bk.new (w.alloc (.cells #[.int .i64 0, .int .i64 0, .int .i64 0, .slice none 0 0] 62)) 62 #[.int .i64 0, .int .i64 0, .int .i64 0, .slice none 0 0]
  rw [World.size_alloc] at hm0
  have hx0 := (Bk.new w 62 #[.int .i64 0, .int .i64 0, .int .i64 0, .slice none 0 0]).alloc (.cells #[.int .i64 0, .int .i64 0, .int .i64 0, .slice none 0 0] 62)
  have ho1 : Only [] w ((w.alloc (.cells #[.int .i64 0, .int .i64 0, .int .i64 0, .slice none 0 0] 62)).alloc (.cells #[.int .i64 0, .int .i64 0, .int .i64 0, .slice none 0 0] 62)) := ((Only.refl [] w).alloc _).alloc _
  have HN := Lib.hid (fun (W : World) (ow : Only [] w W) (hW : w.heap.size + 2 = W.heap.size) (hm : Bk W (w.heap.size + 1) 62 #[.int .i64 0, .int .i64 0, .int .i64 0, .slice none 0 0]) => by
    have o1 : Only [] W (W.alloc (.cells #[.pointer (some ⟨w.heap.size + 1, 0, none⟩), .pointer (some ⟨w.heap.size + 1, 1, none⟩), .pointer (some ⟨w.heap.size + 1, 2, none⟩)] 81)) := (Only.refl [] W).alloc _
    have hn := rnumsF_any (r := r) [w.heap.size + 1] (FM (w.heap.size + 1) (tv r) (tv (tk r)) (tv (tk (tk r)))) ((HR0.out.keep ow).keep o1) (Bk.new W 81 #[.pointer (some ⟨w.heap.size + 1, 0, none⟩), .pointer (some ⟨w.heap.size + 1, 1, none⟩), .pointer (some ⟨w.heap.size + 1, 2, none⟩)]) ⟨by simp, by simp, by simp⟩ (by simp; omega) (by simp; omega) (by simp; omega) (hm.only o1 (by simp))
      (fun k W W' o hF => by
        match k, hF with
        | 0, hF => exact Bk.only hF o (by simp; omega)
        | 1, hF => exact Bk.only hF o (by simp; omega)
        | 2, hF => exact Bk.only hF o (by simp; omega)
        | n + 3, hF => exact Bk.only hF o (by simp; omega))
      (fun W hF => ⟨⟨_, Bk.cell hF 0⟩, Bk.free hF 0, by have := Bk.set hF 0 (.int .i64 (tv r)); simpa [FM] using this⟩)
      (fun W hF => ⟨⟨_, Bk.cell hF 1⟩, Bk.free hF 1, by have := Bk.set hF 1 (.int .i64 (tv (tk r))); simpa [FM] using this⟩)
      (fun W hF => ⟨⟨_, Bk.cell hF 2⟩, Bk.free hF 2, by have := Bk.set hF 2 (.int .i64 (tv (tk (tk r)))); simpa [FM] using this⟩)
    rw [hv0, hv1, hv2] at hn
    have hq : ∀ e w', (e = Ending.returned (.tuple #[]) ∧ ∃ A' c', Rd w' g kb A' c' (tk (tk (tk r))).1 (tk (tk (tk r))).2 ∧ FM (w.heap.size + 1) v0 v1 v2 3 w' ∧ Only [g, w.heap.size + 1] (W.alloc (.cells #[.pointer (some ⟨w.heap.size + 1, 0, none⟩), .pointer (some ⟨w.heap.size + 1, 1, none⟩), .pointer (some ⟨w.heap.size + 1, 2, none⟩)] 81)) w') → (e = .returned (.tuple #[]) ∧ (∃ A' c', Rd w' g kb A' c' (tk (tk (tk r))).1 (tk (tk (tk r))).2) ∧ Bk w' (w.heap.size + 1) 62 #[.int .i64 v0, .int .i64 v1, .int .i64 v2, .slice none 0 0] ∧ Only [g, w.heap.size + 1] W w') := fun e w' ⟨h1, A', c', h2, h3, h4⟩ => ⟨h1, ⟨A', c', h2⟩, h3, (o1.mono (ss := [g, w.heap.size + 1]) (fun _ hx => nomatch hx)).trans h4 (fun x hx => .inl hx)⟩
    exact hn.mono hq)
  have hn1 := HN.out _ ho1 (by simp) hm0
  rw [World.size_alloc, World.size_alloc] at hn1
  have HN1 := Lib.hid hn1
  have HB := Lib.hid (fun (W : World) (A' : Option Addr) (c' : Nat) (hr : Rd W g kb A' c' (tk (tk (tk r))).1 (tk (tk (tk r))).2) => by
    have hh := rbytes_any hr
    unfold TookRow at hh
    have e : rowTook (tk (tk (tk r))).1 (tk (tk (tk r))).2 = y := hy
    rw [e, hyz] at hh
    exact hh)
  have HO1 := Lib.hid ho1
  have HX0 := Lib.hid hx0
  clear h hv0 hv1 hv2 hyz hn1 HN ho1 hx0 hm0 hy
  go_enter Try.func50, Try.ntmps50
  go_wp2_with (first
    | (go_at_call 47; go_must (refine HN1.out.mono ?_); rintro e w3 ⟨rfl, ⟨A3, c3, R3⟩, M3, O3⟩; have X3 := HX0.out.only O3 (by simp; omega))
    | (go_at_call 46; go_must (refine (HB.out _ A3 c3 R3).mono ?_); rintro e w4 ⟨P, cp, A4, c4, rfl, V4, F4, R4, O4⟩; have X4 := X3.only O4 (by simp; omega); have M4 := M3.only O4 (by simp; omega); obtain ⟨m0, m1, m2, m3⟩ := bk_four M4; obtain ⟨x0, x1, x2, x3⟩ := bk_four X4; have mf3 := M4.free 3; have xf0 := X4.free 0; have xf1 := X4.free 1; have xf2 := X4.free 2; have xf3 := X4.free 3; have ml := M4.lt; have xl := X4.lt))
  have Q3 := (HO1.out.mono (ss := [g]) (fun _ hx => nomatch hx)).trans O3 (fun x hx => by
    simp only [List.mem_cons, List.not_mem_nil, or_false] at hx
    rcases hx with rfl | rfl
    · exact .inl (by simp)
    · exact .inr (by omega))
  have O5 := (Q3.trans O4 (fun x hx => .inl hx)).setCell (p := ⟨w.heap.size + 1, 3, none⟩) (.inr (Nat.le_succ _)) (.slice P z cp)
  have O6 := only_store O5 (g := w.heap.size) (.inr (Nat.le_refl _)) (.int .i64 v0) (.int .i64 v1) (.int .i64 v2) (.slice P z cp)
  have Ow : Only [w.heap.size + 1, w.heap.size] w4 _ := only_store (((Only.refl [w.heap.size + 1, w.heap.size] w4).setCell (p := ⟨w.heap.size + 1, 3, none⟩) (.inl (by simp)) (.slice P z cp))) (g := w.heap.size) (.inl (by simp)) (.int .i64 v0) (.int .i64 v1) (.int .i64 v2) (.slice P z cp)
  have hw3 : w.heap.size + 1 < w3.heap.size := M3.lt
  refine msg_ret (s := 2) (by kernel_rfl) w.heap.size _ _ _ _ rfl (bk_store (X4.far (p := ⟨w.heap.size + 1, 3, none⟩) (by simp) _) _ _ _ _) ?_
  refine ⟨P, cp, A4, c4, by rw [HT.out, HZ.out], ?_, ?_, R4.only Ow (by simp; omega) (by simp; omega), O6⟩
  · rw [HT.out, HZ.out]
    exact V4.only Ow (fun k hk => by have := F4 k hk; simp; omega)
  · exact fun k hk => Nat.le_trans (by omega) (F4 k hk)
end Go.Proofs.Ythaodlegpjedoaa
