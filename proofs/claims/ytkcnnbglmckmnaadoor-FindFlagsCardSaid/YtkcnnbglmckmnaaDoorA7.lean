/-
  Texts of the seat, laid one behind the other: ZAny Tk ZRdr ZLeaf ZKeyR ZMatch1.
-/
import Derived.Test.YtkcnnbglmckmnaaDoorA6
import Derived.Test.YtkcnnbglmckmnaaDoorA2
import Derived.Test.YtkcnnbglmckmnaaDoorA1
import Derived.Laws.ResultCell
import Derived.Deep.Cut
import Derived.Test.YtkcnnbglmckmnaaDoorA3
import Derived.Lib.OthersKept
import Derived.Shelf.Abstract
import Derived.Deep.LoopGhost
import Derived.Laws.RangeAny
import Derived.WalkKit
namespace Go.Proofs.YtkcnnbglmckmnaaDoor
open Go.RowKit Go.Instr
def SaysK (K : Nat → Prop) (g : Nat) (lb : Array Value) (y : Ky) (b : Bool) (w : World) : Prop := ∀ W vs, Only [] w W → KyIs K W y vs → Calls Tryd.prog g (#[.agg vs.toArray] ++ lb) W fun e w' => e = .returned (.bool b) ∧ Only [] W w'
theorem anyK_hit {l : List Ky} {p : Ky → Bool} {k : Nat} (h : k < l.length) (hx : p l[k] = true) : (l.drop k).any p = true := by
  rw [List.drop_eq_getElem_cons h, List.any_cons, hx]; rfl
theorem anyK_miss {l : List Ky} {p : Ky → Bool} {k : Nat} (h : k < l.length) (hx : p l[k] = false) : (l.drop k).any p = (l.drop (k + 1)).any p := by
  rw [List.drop_eq_getElem_cons h, List.any_cons, hx]; rfl
theorem row_key {K : Nat → Prop} {w : World} {A : Option Addr} {n : Nat} {l : List Ky} {xs : List Value} (hr : Gr 6 w A n xs) (hk : KysIs K w l xs) {i : Nat} (hi : i < n) (hi' : i < l.length) :
    ∃ (ad : Addr) (kd m : Int) (s t : ByteArray) (SA : Option Addr) (ns sc : Nat) (KA : Option Addr) (nk kc : Nat), A = some ad ∧ KyIs K w l[i] [.int .i64 kd, .int .i64 m, .string s, .string t, .slice SA ns sc, .slice KA nk kc] ∧
      w.cell? (ad.add (i * 6)) = some (.int .i64 kd) ∧ w.cell? ⟨(ad.add (i * 6)).block, (ad.add (i * 6)).off + 1, none⟩ = some (.int .i64 m) ∧ w.cell? ⟨(ad.add (i * 6)).block, (ad.add (i * 6)).off + 2, none⟩ = some (.string s) ∧
      w.cell? ⟨(ad.add (i * 6)).block, (ad.add (i * 6)).off + 3, none⟩ = some (.string t) ∧ w.cell? ⟨(ad.add (i * 6)).block, (ad.add (i * 6)).off + 4, none⟩ = some (.slice SA ns sc) ∧ w.cell? ⟨(ad.add (i * 6)).block, (ad.add (i * 6)).off + 5, none⟩ = some (.slice KA nk kc) := by
  obtain ⟨ad, e, hc⟩ := hr.at_ (by omega)
  have h1 := KysIs.at_ hk hi'
  obtain ⟨SA, ns, sc, KA, nk, kc, ys, hp⟩ := h1.parts
  have hcell : ∀ (j : Nat) (u : Value), ((xs.drop (i * 6)).take 6)[j]? = some u → w.cell? (ad.add (i * 6 + j)) = some u := fun j u hu => hc _ u (by
    rw [List.getElem?_take] at hu
    split at hu
    · rw [List.getElem?_drop] at hu
      exact hu
    · cases hu)
  have h2 := hp.cells
  rw [h2] at h1 hcell
  refine ⟨ad, l[i].kind, l[i].n, St l[i].name, St l[i].text, SA, ns, sc, KA, nk, kc, e, h1, ?_, ?_, ?_, ?_, ?_, ?_⟩
  · have := hcell 0 _ rfl
    simpa using this
  all_goals rw [add_fld]
  · exact hcell 1 _ rfl
  · exact hcell 2 _ rfl
  · exact hcell 3 _ rfl
  · exact hcell 4 _ rfl
  · exact hcell 5 _ rfl
set_option maxHeartbeats 1000000 in
set_option maxRecDepth 100000 in
theorem IndexFuncK_any {K : Nat → Prop} {w : World} {A : Option Addr} {n c : Nat} {l : List Ky} {xs : List Value} (hr : Gr 6 w A n xs) (hk : KysIs K w l xs) (hl : l.length = n) (hn : n ≤ 140737488355328) (g : Nat) (lb : Array Value) (eg : ∀ args w, (callFunc g args).run Tryd.prog w = .ok (.enter g args) w) (p : Ky → Bool) (hp : ∀ y ∈ l, SaysK K g lb y (p y) w) :
    Calls Tryd.prog 46 #[.slice A n c, .func (.func g) #[] lb] w fun e w' => ∃ I : Int, e = .returned (.int .i64 I) ∧ Hid (decide (0 ≤ I) = l.any p) ∧ Only [] w w' := by
  have HR := Lib.hid hr
  have HK := Lib.hid hk
  have HLN := Lib.hid hl
  have HP := Lib.hid hp
  clear hr hk hp hl
  go_enter Tryd.func46, Tryd.ntmps46
  go_wp2
  go_loopw [8] (fun iv wr => Only [] w wr ∧ ∃ k : Nat, iv = .int .i64 (k : Int) ∧ k ≤ n ∧ Hid ((l.drop k).any p = l.any p)) (fun iv _ => n - (intOf iv).toNat)
  case atStart => exact ⟨Only.refl _ _, 0, rfl, by omega, rfl⟩
  case round =>
    obtain ⟨hO, k, rfl, hk, HE0⟩ := hrel
    by_cases hlt : k < n
    · have hlt' : (k : Int) < (n : Int) := by omega
      have hkl : k < l.length := by rw [HLN.out]; exact hlt
      obtain ⟨ad, kd, m, s, t, SA, ns, sc, KA, nk, kc, rfl, hky, c0, c1, c2, c3, c4, c5⟩ := row_key (HR.out.keep hO) (KysIs.keep HK.out hO) hlt hkl
      have hhit := anyK_hit (p := p) hkl
      have hmiss := anyK_miss (p := p) hkl
      have hc := HP.out _ (List.getElem_mem hkl) wr _ hO hky
      have hki : (k : Int) + 1 ≤ 140737488355328 := by omega
      obtain ⟨pb, hpb⟩ : ∃ q, p l[k] = q := ⟨_, rfl⟩
      rw [hpb] at hc hmiss hhit
      have hc := Lib.hid hc
      clear hky
      cases pb
      · have HRR : Hid (∃ k' : Nat, Value.int .i64 ((k : Int) + 1) = .int .i64 (k' : Int) ∧ k' ≤ n ∧ Hid ((l.drop k').any p = l.any p)) :=
          ⟨k + 1, by simp, by omega, by show _ = _; rw [← hmiss rfl, HE0.out]⟩
        have HM : Hid (n - (intOf (.int .i64 ((k : Int) + 1))).toNat < n - (intOf (.int .i64 (k : Int))).toNat) := by
          show _ < _
          simp [intOf]
          omega
        clear hmiss hhit hpb
        go_wp2_with (go_at_fn g; refine hc.out.mono ?_; rintro e w2 ⟨rfl, O2⟩)
        exact ⟨⟨hO.then O2, HRR.out⟩, HM.out⟩
      · have HE : Hid (decide (0 ≤ (k : Int)) = l.any p) := by
          show _ = _
          rw [← HE0.out, hhit rfl]
          exact decide_eq_true (by omega)
        clear hmiss hhit hpb
        go_wp2_with (go_at_fn g; refine hc.out.mono ?_; rintro e w2 ⟨rfl, O2⟩)
        go_ret
        exact ⟨k, rfl, HE.out, hO.then O2⟩
    · obtain rfl : k = n := by omega
      have HE : Hid (decide ((0 : Int) ≤ -1) = l.any p) := by
        show _ = _
        rw [← HE0.out, List.drop_of_length_le (by rw [HLN.out]; exact Nat.le_refl _)]
        rfl
      go_wp2
      go_ret
      exact ⟨-1, rfl, HE.out, hO⟩
theorem ContainsFuncK_any {K : Nat → Prop} {w : World} {A : Option Addr} {n c : Nat} {l : List Ky} {xs : List Value} (hr : Gr 6 w A n xs) (hk : KysIs K w l xs) (hl : l.length = n) (hn : n ≤ 140737488355328) (g : Nat) (lb : Array Value) (eg : ∀ args w, (callFunc g args).run Tryd.prog w = .ok (.enter g args) w) (p : Ky → Bool) (hp : ∀ y ∈ l, SaysK K g lb y (p y) w) :
    Calls Tryd.prog 30 #[.slice A n c, .func (.func g) #[] lb] w fun e w' => e = .returned (.bool (l.any p)) ∧ Only [] w w' := by
  have hI := IndexFuncK_any (c := c) hr hk hl hn g lb eg p hp
  clear hr hk hp eg
  go_enter Tryd.func30, Tryd.ntmps30
  go_wp2_with (go_at_call 46; with_reducible refine hI.mono ?_; rintro e w2 ⟨I, rfl, HI, O2⟩)
  go_ret
  exact ⟨by rw [← HI.out]; rfl, O2⟩
end Go.Proofs.YtkcnnbglmckmnaaDoor
namespace Go.Proofs.YtkcnnbglmckmnaaDoor
open Go.RowKit Go.Instr
def tkc (t : Tkn) : Array Value := #[.int .i64 t.1, .string (St t.2)]
def tkv (t : Tkn) : Value := .agg (tkc t)
theorem infoTok : (Tryd.prog.info? 45).map (·.size) = some 2 := by kernel_rfl
def tkl (t : Tkn) : List Value := [.int .i64 t.1, .string (St t.2)]
theorem tkl_len (t : Tkn) : (tkl t).length = 2 := rfl
theorem tkl_one (t : Tkn) : One1 (tkl t) := by
  intro u hu
  simp only [tkl, List.mem_cons, List.not_mem_nil, or_false] at hu
  rcases hu with rfl | rfl <;> rfl
theorem infoTok3 : (Tryd.prog.info? 45).map (fun i => (i.zero, i.size, i.bytes)) = some (some (.agg #[.int .i64 0, .string ⟨#[]⟩]), 2, 24) := by kernel_rfl
theorem tok_cell {w : World} {A : Option Addr} {n : Nat} {T : List Tkn} (h : Gr 2 w A n (gx tkl T)) {k : Nat} (hk : k < n) (hk' : k < T.length) : ∃ ad, A = some ad ∧ w.cell? (ad.add (k * 2)) = some (.int .i64 T[k].1) ∧ w.cell? ⟨(ad.add (k * 2)).block, (ad.add (k * 2)).off + 1, none⟩ = some (.string (St T[k].2)) := by
  obtain ⟨ad, rfl, hc⟩ := h.2 (by omega)
  refine ⟨ad, rfl, ?_, ?_⟩
  · have := hc (k * 2 + 0) (.int .i64 T[k].1) (by rw [gx_get tkl_len hk' (by omega)]; rfl)
    simpa using this
  · have := hc (k * 2 + 1) (.string (St T[k].2)) (by rw [gx_get tkl_len hk' (by omega)]; rfl)
    rw [← add_fld ad (k * 2) 0] at this
    exact this
end Go.Proofs.YtkcnnbglmckmnaaDoor
namespace Go.Proofs.YtkcnnbglmckmnaaDoor
open Go.RowKit Go.Instr
theorem infoKy : (Tryd.prog.info? 27).map (·.size) = some 6 := by kernel_rfl
theorem key_ret {fn : Func} {R : Ending → World → Prop} {tmps : Array Value} {w : World} {s u : Nat} (hres : fn.results = #[.cell s 27, .tmp u]) (p : Nat) {a0 a1 a2 a3 a4 a5 : Value} (x : Value) (h2 : tmps.getD s undef = .pointer (some ⟨p, 0, none⟩)) (h3 : tmps.getD u undef = x)
    (hb : Bk w p 27 #[a0, a1, a2, a3, a4, a5]) (hR : R (.returned (.tuple #[.agg #[a0, a1, a2, a3, a4, a5], x])) w) : bodyPost Tryd.prog fn R .ret { tmps := tmps, defers := [] } w := by
  refine bodyPost_ret (v := .tuple #[.agg #[a0, a1, a2, a3, a4, a5], x]) ?_ rfl hR
  rw [results_cell_tmp hres]
  rw [h2, h3]
  simp only [asAddr, Sem.run_pure, Result.andThen_ok]
  rw [run_loadVar_row (P := Tryd.prog) w p 27 27 #[a0, a1, a2, a3, a4, a5] (0, 0) _ hb Tryd.underlying27 rfl infoKy]
  rfl
def store6 (w : World) (g : Nat) (b0 b1 b2 b3 b4 b5 : Value) : World :=
  (((((w.setCell ⟨g, 0, none⟩ b0).setCell ⟨g, 1, none⟩ b1).setCell ⟨g, 2, none⟩ b2).setCell ⟨g, 3, none⟩ b3).setCell ⟨g, 4, none⟩ b4).setCell ⟨g, 5, none⟩ b5
theorem bk_store6 {w : World} {g : Nat} {t : TypeId} {a0 a1 a2 a3 a4 a5 : Value} (h : Bk w g t #[a0, a1, a2, a3, a4, a5]) (b0 b1 b2 b3 b4 b5 : Value) : Bk (store6 w g b0 b1 b2 b3 b4 b5) g t #[b0, b1, b2, b3, b4, b5] := by
  simpa [store6] using (((((h.set 0 b0).set 1 b1).set 2 b2).set 3 b3).set 4 b4).set 5 b5
theorem only_store6 {rs : List Nat} {w w' : World} {g : Nat} (o : Only rs w w') (hg : g ∈ rs ∨ w.heap.size ≤ g) (b0 b1 b2 b3 b4 b5 : Value) : Only rs w (store6 w' g b0 b1 b2 b3 b4 b5) :=
  (((((o.setCell (p := ⟨g, 0, none⟩) hg b0).setCell (p := ⟨g, 1, none⟩) hg b1).setCell (p := ⟨g, 2, none⟩) hg b2).setCell (p := ⟨g, 3, none⟩) hg b3).setCell (p := ⟨g, 4, none⟩) hg b4).setCell (p := ⟨g, 5, none⟩) hg b5
theorem KyIs.plain {K : Nat → Prop} {w : World} (kd n : Int) (s t : List UInt8) : KyIs K w (.mk kd n s t [] []) [.int .i64 kd, .int .i64 n, .string (St s), .string (St t), .slice none 0 0, .slice none 0 0] := by
  unfold KyIs
  exact ⟨none, 0, 0, none, 0, 0, [], rfl, Rs.nil _ _, fun _ h => (nomatch h), Gr.nil _ _ _, fun _ h => (nomatch h), rfl, Nat.le_refl _, KysIs.nil⟩
theorem KyIs.ofSet {K : Nat → Prop} {w : World} (kd n : Int) {A : Option Addr} {m c : Nat} {l : List (Int × Int)} (h : Rs w A m l) (hK : ∀ x ∈ blks A, K x) : KyIs K w (.mk kd n [] [] l []) [.int .i64 kd, .int .i64 n, .string ⟨#[]⟩, .string ⟨#[]⟩, .slice A m c, .slice none 0 0] := by
  unfold KyIs
  exact ⟨A, m, c, none, 0, 0, [], rfl, h, hK, Gr.nil _ _ _, fun _ h => (nomatch h), rfl, Nat.le_refl _, KysIs.nil⟩
theorem KyIs.ofKids {K : Nat → Prop} {w : World} (kd : Int) {A : Option Addr} {m c : Nat} {l : List Ky} {xs : List Value} (h : Gr 6 w A m xs) (hK : ∀ x ∈ blks A, K x) (hl : l.length = m) (hc : m ≤ c) (hk : KysIs K w l xs) : KyIs K w (.mk kd 0 [] [] [] l) [.int .i64 kd, .int .i64 0, .string ⟨#[]⟩, .string ⟨#[]⟩, .slice none 0 0, .slice A m c] := by
  unfold KyIs
  exact ⟨none, 0, 0, A, m, c, xs, rfl, Rs.nil _ _, fun _ h => (nomatch h), h, hK, hl, hc, hk⟩
def Rdr (b : Nat) (w : World) (g : Nat) (T : List Tkn) (d : Int) : Prop :=
  ∃ A n c, Bk w g 55 #[.slice A n c, .int .i64 d] ∧ Gr 2 w A n (gx tkl T) ∧ T.length = n ∧ n ≤ c ∧ g < b ∧ (∀ x ∈ blks A, 0 < n → x < b ∧ x ≠ g) ∧ (∀ t ∈ T, t.2.length ≤ 140737488355328) ∧ T.length ≤ 100000
section
variable {b : Nat} {w w' : World} {g : Nat} {T : List Tkn} {d : Int}
theorem Rdr.lt (h : Rdr b w g T d) : g < b := by
  obtain ⟨_, _, _, _, _, _, _, h, _, _, _⟩ := h
  exact h
theorem Rdr.texts (h : Rdr b w g T d) : ∀ t ∈ T, t.2.length ≤ 140737488355328 := by
  obtain ⟨_, _, _, _, _, _, _, _, _, h, _⟩ := h
  exact h
theorem Rdr.count (h : Rdr b w g T d) : T.length ≤ 100000 := by
  obtain ⟨_, _, _, _, _, _, _, _, _, _, h⟩ := h
  exact h
theorem Rdr.only {rs : List Nat} (h : Rdr b w g T d) (o : Only rs w w') (hr : ∀ x ∈ rs, b ≤ x) : Rdr b w' g T d := by
  obtain ⟨A, n, c, h1, h2, h3, h4, h5, h6, h8⟩ := h
  refine ⟨A, n, c, h1.only o (fun hm => by have := hr _ hm; omega), ?_, h3, h4, h5, h6, h8⟩
  rcases Nat.eq_zero_or_pos n with h0 | h0
  · subst h0
    have : gx tkl T = [] := by rw [List.length_eq_zero_iff.1 h3]; rfl
    rw [this]
    exact Gr.nil _ _ _
  · exact h2.only o (fun x hx hm => by have := hr _ hm; have := (h6 x hx h0).1; omega)
theorem Rdr.keep (h : Rdr b w g T d) (o : Only [] w w') : Rdr b w' g T d := h.only o (fun _ hm => nomatch hm)
theorem Rdr.deep (h : Rdr b w g T d) (d' : Int) : Rdr b (w.setCell ⟨g, 1, none⟩ (.int .i64 d')) g T d' := by
  obtain ⟨A, n, c, h1, h2, h3, h4, h5, h6, h8⟩ := h
  refine ⟨A, n, c, by simpa using h1.set 1 (.int .i64 d'), ?_, h3, h4, h5, h6, h8⟩
  have o : Only [g] w (w.setCell ⟨g, 1, none⟩ (.int .i64 d')) := (Only.refl [g] w).setCell (.inl (by simp)) _
  rcases Nat.eq_zero_or_pos n with h0 | h0
  · subst h0
    have : gx tkl T = [] := by rw [List.length_eq_zero_iff.1 h3]; rfl
    rw [this]
    exact Gr.nil _ _ _
  · exact h2.only o (fun x hx hm => (h6 x hx h0).2 (by simpa using hm))
theorem Rdr.cells (h : Rdr b w g T d) : ∃ A c, w.cell? ⟨g, 0, none⟩ = some (.slice A T.length c) ∧ w.cell? ⟨g, 1, none⟩ = some (.int .i64 d) ∧ w.frozen? ⟨g, 0, none⟩ = false ∧ w.frozen? ⟨g, 1, none⟩ = false ∧ T.length ≤ c ∧ Gr 2 w A T.length (gx tkl T) := by
  obtain ⟨A, n, c, h1, h2, h3, h4, h5, h6, h8⟩ := h
  subst h3
  exact ⟨A, c, by rw [h1.cell]; rfl, by rw [h1.cell]; rfl, h1.free 0, h1.free 1, h4, h2⟩
theorem Rdr.cut {t : Tkn} {r : List Tkn} (h : Rdr b w g (t :: r) d) : ∃ (ad : Addr) (c : Nat) (A2 : Option Addr) (c2 : Nat), w.cell? ⟨g, 0, none⟩ = some (.slice (some ad) (r.length + 1) c) ∧ w.frozen? ⟨g, 0, none⟩ = false ∧
    w.cell? ad = some (.int .i64 t.1) ∧ w.cell? ⟨ad.block, ad.off + 1, none⟩ = some (.string (St t.2)) ∧ ad.block ≠ g ∧
    (∀ W, (Instr.slice 22 (.slice (some ad) (r.length + 1) c) (some (.int .i64 1)) none none).run Tryd.prog W = .ok (.slice A2 r.length c2) W) ∧
    Rdr b (w.setCell ⟨g, 0, none⟩ (.slice A2 r.length c2)) g r d := by
  obtain ⟨A, n, c, h1, h2, h3, h4, h5, h6, h8⟩ := h
  obtain rfl : n = r.length + 1 := by rw [← h3]; rfl
  obtain ⟨ad, rfl, k1, k2⟩ := tok_cell h2 (k := 0) (by omega) (by simp)
  have h7 := h6 ad.block (by simp) (by omega)
  have hcut := Gr.cut (c := c) h2 (j := 1) (by omega) h4
  have hb : blks (if c = 1 then some ad else (some ad).map (·.add (1 * 2))) = blks (some ad) := by
    split
    · rfl
    · simp [add_block]
  rw [show r.length + 1 - 1 = r.length by omega, ← gx_drop tkl_len, List.drop_one, List.tail_cons] at hcut
  rw [Nat.zero_mul, add_zero] at k1 k2
  refine ⟨ad, c, _, c - 1, by rw [h1.cell]; rfl, h1.free 0, k1, k2, h7.2, fun W => ?_, if c = 1 then some ad else (some ad).map (·.add (1 * 2)), r.length, c - 1, by simpa using h1.set 0 (.slice (if c = 1 then some ad else (some ad).map (·.add (1 * 2))) r.length (c - 1)), ?_, rfl, by omega, h5, fun x hx h0 => ?_, fun x hx => h8.1 x (List.mem_cons_of_mem _ hx), by have := h8.2; simp at this; omega⟩
  · have h1' : (1 : Int) ≤ ((r.length + 1 : Nat) : Int) := by omega
    by_cases hck : c = 1
    · subst hck
      obtain ⟨m, hm⟩ : ∃ m, r.length = m := ⟨_, rfl⟩
      rw [hm] at h4 h1' ⊢
      obtain rfl : m = 0 := by omega
      go_simp
    · obtain ⟨m, hm⟩ : ∃ m, r.length = m := ⟨_, rfl⟩
      rw [hm] at h4 h1' ⊢
      go_simp
      intro hx
      omega
  · exact hcut.only ((Only.refl [g] w).setCell (.inl (by simp)) _) (fun x hx hm => by rw [hb] at hx; simp at hx hm; exact h7.2 (by omega))
  · rw [hb] at hx
    exact h6 x hx (by omega)
end
def headT (T : List Tkn) : Tkn := T.headD (0, [])
theorem Rdr.head {b : Nat} {w : World} {g : Nat} {T : List Tkn} {d : Int} (h : Rdr b w g T d) : (headT T).2.length ≤ 140737488355328 := by
  cases T with
  | nil => exact Nat.zero_le _
  | cons t r => exact h.texts t (by simp)
def NextR (b g : Nat) (w : World) (T : List Tkn) (d : Int) (e : Ending) (w' : World) : Prop := e = .returned (tkv (headT T)) ∧ Only [g] w w' ∧ Rdr b w' g T.tail d
theorem tok_ret1 {fn : Func} {R : Ending → World → Prop} {tmps : Array Value} {w : World} {s : Nat} (hres : fn.results = #[.cell s 45]) (p : Nat) (t : Tkn) (h2 : tmps.getD s undef = .pointer (some ⟨p, 0, none⟩))
    (hb : Bk w p 45 (tkc t)) (hR : R (.returned (tkv t)) w) : bodyPost Tryd.prog fn R .ret { tmps := tmps, defers := [] } w := by
  refine bodyPost_ret (v := tkv t) ?_ rfl hR
  exact results_cell_row hres tmps w p 45 (tkc t) (0, 0) _ h2 hb Tryd.underlying45 rfl infoTok
set_option maxHeartbeats 1000000 in
set_option maxRecDepth 100000 in
theorem fnext_any {b g : Nat} {w : World} {T : List Tkn} {d : Int} (h : Rdr b w g T d) (hb : b ≤ w.heap.size) : Calls Tryd.prog 51 #[.pointer (some ⟨g, 0, none⟩)] w (NextR b g w T d) := by
  have hgb := h.lt
  have hgp : g ≠ w.heap.size := by omega
  have hgp' : g < w.heap.size := by omega
  have h1 := h.keep ((Only.refl _ _).alloc (.cells #[.int .i64 0, .string ⟨#[]⟩] 45))
  have HB0 : Hid (Bk (w.alloc (.cells #[.int .i64 0, .string ⟨#[]⟩] 45)) w.heap.size 45 (tkc (0, []))) := Bk.new w 45 #[.int .i64 0, .string ⟨#[]⟩]
  cases T with
  | nil =>
    obtain ⟨A, c, c0, c1, f0, f1, _, _⟩ := h1.cells
    have HH := Lib.hid h1
    clear h h1
    go_enter Tryd.func51, Tryd.ntmps51
    go_wp2
    refine tok_ret1 (s := 2) (by kernel_rfl) w.heap.size (0, []) rfl ?_ ?_
    · exact HB0.out
    · exact ⟨rfl, (Only.refl _ _).alloc _, HH.out⟩
  | cons t r =>
    obtain ⟨t1, t2⟩ := t
    obtain ⟨ad, c, A2, c2, k0, j0, k1, k2, hne, hcut, hR⟩ := h.cut
    have HT : Hid (headT ((t1, t2) :: r) = (t1, t2)) := rfl
    have hadp : ad.block < w.heap.size := block_lt_of_cell k1
    have hO0 : Only [] w (w.alloc (.cells #[.int .i64 0, .string ⟨#[]⟩] 45)) := (Only.refl _ _).alloc _
    have c0 := hO0.cellSome k0 (fun hm => nomatch hm)
    have c1 := hO0.cellSome k1 (fun hm => nomatch hm)
    have c2' := hO0.cellSome k2 (fun hm => nomatch hm)
    have f0 := (hO0.frozen (p := ⟨g, 0, none⟩) hgp' (fun hm => nomatch hm)).trans j0
    have hadp' : ad.block ≠ w.heap.size := by omega
    have HR := Lib.hid hR
    obtain ⟨m, hm⟩ : ∃ m, r.length = m := ⟨_, rfl⟩
    rw [hm] at c0 hcut HR
    have h1m : (1 : Int) ≤ ((m + 1 : Nat) : Int) := by omega
    have h0m : 0 < m + 1 := by omega
    have h0m' : (0 : Int) < ((m + 1 : Nat) : Int) := by omega
    clear h h1 hR hm k0 k1 k2 j0 hO0 HB0
    simp only at c1 c2'
    go_enter Tryd.func51, Tryd.ntmps51
    go_wp2
    have hsz : (w.setCell ⟨g, 0, none⟩ (.slice A2 m c2)).heap.size = w.heap.size := by simp [World.setCell]
    have hb1 := Bk.new (w.setCell ⟨g, 0, none⟩ (.slice A2 m c2)) 45 #[.int .i64 t1, .string (St t2)]
    rw [hsz] at hb1
    refine tok_ret1 (s := 2) (by kernel_rfl) w.heap.size (t1, t2) rfl (hb1.alloc _) ?_
    exact ⟨rfl, (((Only.refl [g] w).setCell (.inl (by simp)) _).alloc _).alloc _, HR.out.keep (((Only.refl _ _).alloc _).alloc _)⟩
end Go.Proofs.YtkcnnbglmckmnaaDoor
namespace Go.Proofs.YtkcnnbglmckmnaaDoor
open Go.RowKit Go.Instr
theorem zeq_yes {s : ByteArray} {l m : List UInt8} (hs : s.data.toList = l) (h : l = m) : (s.toList == m) = true := by
  rw [Lib.toList_data, hs, h, beq_self_eq_true]
theorem zeq_no {s : ByteArray} {l m : List UInt8} (hs : s.data.toList = l) (h : l ≠ m) : (s.toList == m) = false := by
  rw [Lib.toList_data, hs, beq_eq_false_iff_ne]
  exact h
set_option maxRecDepth 100000 in
theorem flag_any (s : ByteArray) (w : World) : Calls Tryd.prog 78 #[.string s] w fun e w' => e = .returned (.int .i64 (flagN s.data.toList)) ∧ w = w' := by
  obtain ⟨l, hl⟩ : ∃ l, s.data.toList = l := ⟨_, rfl⟩
  rw [hl]
  obtain ⟨F, hF⟩ : ∃ F, flagN l = F := ⟨_, rfl⟩
  rw [hF]
  by_cases h1 : l = seenW
  · have e1 := zeq_yes hl h1
    have HE : Hid (F = 1) := by show _ = _; rw [← hF]; unfold flagN; rw [if_pos h1]
    unfold seenW at e1
    clear hl hF h1
    go_enter Tryd.func78, Tryd.ntmps78
    go_wp2
    go_ret
    exact ⟨by rw [HE.out]; rfl, rfl⟩
  have e1 := zeq_no hl h1
  unfold seenW at e1
  by_cases h2 : l = answeredW
  · have e2 := zeq_yes hl h2
    have HE : Hid (F = 2) := by show _ = _; rw [← hF]; unfold flagN; rw [if_neg h1, if_pos h2]
    unfold answeredW at e2
    clear hl hF h1 h2
    go_enter Tryd.func78, Tryd.ntmps78
    go_wp2
    go_ret
    exact ⟨by rw [HE.out]; rfl, rfl⟩
  have e2 := zeq_no hl h2
  unfold answeredW at e2
  by_cases h3 : l = flaggedW
  · have e3 := zeq_yes hl h3
    have HE : Hid (F = 4) := by show _ = _; rw [← hF]; unfold flagN; rw [if_neg h1, if_neg h2, if_pos h3]
    unfold flaggedW at e3
    clear hl hF h1 h2 h3
    go_enter Tryd.func78, Tryd.ntmps78
    go_wp2
    go_ret
    exact ⟨by rw [HE.out]; rfl, rfl⟩
  have e3 := zeq_no hl h3
  unfold flaggedW at e3
  by_cases h4 : l = deletedW
  · have e4 := zeq_yes hl h4
    have HE : Hid (F = 8) := by show _ = _; rw [← hF]; unfold flagN; rw [if_neg h1, if_neg h2, if_neg h3, if_pos h4]
    unfold deletedW at e4
    clear hl hF h1 h2 h3 h4
    go_enter Tryd.func78, Tryd.ntmps78
    go_wp2
    go_ret
    exact ⟨by rw [HE.out]; rfl, rfl⟩
  have e4 := zeq_no hl h4
  unfold deletedW at e4
  by_cases h5 : l = draftW
  · have e5 := zeq_yes hl h5
    have HE : Hid (F = 16) := by show _ = _; rw [← hF]; unfold flagN; rw [if_neg h1, if_neg h2, if_neg h3, if_neg h4, if_pos h5]
    unfold draftW at e5
    clear hl hF h1 h2 h3 h4 h5
    go_enter Tryd.func78, Tryd.ntmps78
    go_wp2
    go_ret
    exact ⟨by rw [HE.out]; rfl, rfl⟩
  have e5 := zeq_no hl h5
  unfold draftW at e5
  have HE : Hid (F = 0) := by show _ = _; rw [← hF]; unfold flagN; rw [if_neg h1, if_neg h2, if_neg h3, if_neg h4, if_neg h5]
  clear hl hF h1 h2 h3 h4 h5
  go_enter Tryd.func78, Tryd.ntmps78
  go_wp2
  go_ret
  exact ⟨by rw [HE.out]; rfl, rfl⟩
theorem zdig_yes {c : UInt8} (h1 : 48 ≤ c.toNat) (h2 : c.toNat ≤ 57) : isDig c = true := by simp [isDig, h1, h2]
theorem zdig_no {c : UInt8} (h : c.toNat < 48 ∨ 57 < c.toNat) : isDig c = false := by
  unfold isDig
  rcases h with h | h
  · rw [decide_eq_false (by omega)]; rfl
  · rw [decide_eq_false (p := c.toNat ≤ 57) (by omega)]; simp
theorem ztake_dig {l : List UInt8} {k : Nat} (h : k < l.length) (ha : (l.take k).all isDig = true) (hd : isDig l[k] = true) : (l.take (k + 1)).all isDig = true ∧ dv 0 (l.take (k + 1)) = stp (dv 0 (l.take k)) l[k] := by
  have e : l.take (k + 1) = l.take k ++ [l[k]] := by rw [List.take_succ_eq_append_getElem h]
  rw [e, dv_snoc, List.all_append, ha]
  simp [hd]
theorem znot_all {l : List UInt8} {k : Nat} (h : k < l.length) (hd : isDig l[k] = false) : l.all isDig = false := by
  rw [List.all_eq_false]
  exact ⟨l[k], List.getElem_mem h, by rw [hd]; simp⟩
theorem rune_dig (s : ByteArray) (pos : Nat) (h : pos < s.size) : (isDig (s[pos]'h) = true ∧ (Utf8.decode s pos).1 = (s[pos]'h).toNat ∧ (Utf8.decode s pos).2 = 1 ∧ 48 ≤ (s[pos]'h).toNat ∧ (s[pos]'h).toNat ≤ 57) ∨ (isDig (s[pos]'h) = false ∧ ((Utf8.decode s pos).1 < 48 ∨ 57 < (Utf8.decode s pos).1)) := by
  by_cases ha : (s[pos]'h).toNat < 128
  · rw [decode_ascii s pos h ha]
    by_cases hd : 48 ≤ (s[pos]'h).toNat ∧ (s[pos]'h).toNat ≤ 57
    · exact .inl ⟨zdig_yes hd.1 hd.2, rfl, rfl, hd.1, hd.2⟩
    · exact .inr ⟨zdig_no (by omega), by show (s[pos]'h).toNat < 48 ∨ 57 < (s[pos]'h).toNat; omega⟩
  · have hd := decode_high s pos h (by omega)
    exact .inr ⟨zdig_no (by omega), by omega⟩
def numZ (o : Option Nat) : Value := match o with
  | none => .tuple #[.int .i64 0, .bool false]
  | some n => .tuple #[.int .i64 (n : Int), .bool true]
set_option maxHeartbeats 2000000 in
set_option maxRecDepth 100000 in
theorem fnumber_any (s : ByteArray) (w : World) : Calls Tryd.prog 96 #[.string s] w fun e w' => e = .returned (numZ (numD s.data.toList)) ∧ Only [] w w' := by
  obtain ⟨l, hl⟩ : ∃ l, s.data.toList = l := ⟨_, rfl⟩
  have hsz : l.length = s.size := by rw [← hl]; simp
  have hge : ∀ k (h : k < s.size) (h' : k < l.length), l[k] = s[k]'h := fun k h h' => by subst hl; rw [Array.getElem_toList]; rfl
  obtain ⟨V, hV⟩ : ∃ V, numZ (numD l) = V := ⟨_, rfl⟩
  rw [hl, hV]
  obtain ⟨n, hn⟩ : ∃ n, s.size = n := ⟨_, rfl⟩
  have HV := Lib.hid hV
  have HL : Hid (l.length = n) := hsz.trans hn
  have HS := Lib.hid hn
  have HG := Lib.hid hge
  clear hV hsz hl hge
  by_cases h1 : n < 1
  · have HE : Hid (V = .tuple #[.int .i64 0, .bool false]) := by
      show _ = _
      rw [← HV.out]
      unfold numD
      rw [if_pos (by rw [HL.out]; exact h1)]
      rfl
    have h1' : (n : Int) < 1 := by omega
    rw [← hn] at h1'
    go_enter Tryd.func96, Tryd.ntmps96
    go_wp2
    go_ret2
    exact ⟨by rw [HE.out]; rfl, Only.refl _ _⟩
  · have h1' : (1 : Int) ≤ (n : Int) := by omega
    by_cases h7 : 7 < n
    · have HE : Hid (V = .tuple #[.int .i64 0, .bool false]) := by
        show _ = _
        rw [← HV.out]
        unfold numD
        rw [if_neg (by rw [HL.out]; exact h1), if_pos (by rw [HL.out]; exact h7)]
        rfl
      have h7' : (7 : Int) < (n : Int) := by omega
      rw [← hn] at h1' h7'
      go_enter Tryd.func96, Tryd.ntmps96
      go_wp2
      go_ret2
      exact ⟨by rw [HE.out]; rfl, Only.refl _ _⟩
    · have h7' : (n : Int) ≤ 7 := by omega
      have HVV : Hid (V = numZ (if l.all isDig = true then some (dv 0 l) else none)) := by
        show _ = _
        rw [← HV.out]
        unfold numD
        rw [if_neg (by rw [HL.out]; exact h1), if_neg (by rw [HL.out]; exact h7)]
      rw [← hn] at h1' h7'
      have HN7 : Hid (n ≤ 7) := by show _ ≤ _; omega
      clear h1 h7 hn
      go_enter Tryd.func96, Tryd.ntmps96
      go_wp2
      go_loopg [4] n (fun gf nv wx => ∃ (pos Z : Nat), nv = .int .i64 (Z : Int) ∧ wx.heap[w.heap.size]? = some (.stringIter s pos) ∧ Below w.heap.size w wx ∧ Hid (Z = dv 0 (l.take pos) ∧ (l.take pos).all isDig = true) ∧ pos ≤ n ∧ n ≤ pos + gf)
      case atStart => exact ⟨0, 0, rfl, World.iter_heap w s 0, (Below.refl _ w).alloc (Nat.le_refl _) _, by show _ ∧ _; rw [List.take_zero]; exact ⟨(dv_nil 0).symm, rfl⟩, Nat.zero_le _, by omega⟩
      case round =>
        obtain ⟨pos, Z, rfl, hit, hbw, HA, hle, hfu⟩ := hrel
        by_cases hps : pos < n
        · obtain ⟨g', rfl⟩ : ∃ g', gk = g' + 1 := ⟨gk - 1, by omega⟩
          have hps' : pos < s.size := by rw [HS.out]; exact hps
          have hnx : ∀ ty, (Instr.next (.pointer (some ⟨w.heap.size, 0, none⟩)) true ty).run Tryd.prog wr = _ := fun ty => Lib.run_next_any_at wr w.heap.size s pos ty hit hps'
          have hway := rune_dig s pos hps'
          have hpl : pos < l.length := by rw [HL.out]; exact hps
          have hge := HG.out pos hps' hpl
          obtain ⟨x, hx⟩ : ∃ x, s[pos]'hps' = x := ⟨_, rfl⟩
          rw [hx] at hway hge
          obtain ⟨R, hR⟩ : ∃ R, (Utf8.decode s pos).1 = R := ⟨_, rfl⟩
          obtain ⟨K, hK⟩ : ∃ K, (Utf8.decode s pos).2 = K := ⟨_, rfl⟩
          rw [hR, hK] at hway hnx
          have hit2 := Lib.iterAt_heap wr w.heap.size s pos (pos + K) hit
          have hbw2 := Lib.below_iterAt hbw (k := w.heap.size) (Nat.le_refl _) s (pos + K)
          obtain ⟨W, hWd⟩ : ∃ W, wr.iterAt w.heap.size s (pos + K) = W := ⟨_, rfl⟩
          rw [hWd] at hnx hit2 hbw2
          have hZ : Z < 10000000 := by
            have h := dv_lt (l.take pos) 0 HA.out.2
            rw [← HA.out.1, List.length_take] at h
            have h2 : 10 ^ min pos l.length ≤ 10 ^ 7 := Nat.pow_le_pow_right (by omega) (by have := HL.out; have := HN7.out; omega)
            omega
          rcases hway with ⟨hd, hr, rfl, h48, h57⟩ | ⟨hd, hr⟩
          · obtain ⟨k1, k2⟩ := ztake_dig hpl HA.out.2 (by rw [hge]; exact hd)
            have i48 : (48 : Int) ≤ (R : Int) := by omega
            have i57 : (R : Int) ≤ 57 := by omega
            have HR : Hid (∃ (pos' Z' : Nat), Value.int .i64 (10 * (Z : Int) + ((R : Int) - 48)) = .int .i64 (Z' : Int) ∧ W.heap[w.heap.size]? = some (.stringIter s pos') ∧ Below w.heap.size w W ∧ Hid (Z' = dv 0 (l.take pos') ∧ (l.take pos').all isDig = true) ∧ pos' ≤ n ∧ n ≤ pos' + g') := by
              refine ⟨pos + 1, dv 0 (l.take (pos + 1)), ?_, hit2, hbw2, ⟨rfl, k1⟩, by omega, by omega⟩
              rw [k2, ← HA.out.1, hge]
              unfold stp
              rw [← hr]
              congr 1
              omega
            clear hx hge hR hK hWd k1 k2 hd hr hit2 hbw2 hit hbw
            go_wp2
            go_roundg g'
            case measure => omega
            case rel => exact HR.out
          · have HE : Hid (V = .tuple #[.int .i64 0, .bool false]) := by
              show _ = _
              rw [HVV.out, znot_all hpl (by rw [hge]; exact hd)]
              rfl
            clear hx hge hR hK hWd hd hit2 hit hbw
            by_cases h48 : R < 48
            · have i48 : (R : Int) < 48 := by omega
              clear hr
              go_wp2
              go_ret2
              exact ⟨by rw [HE.out]; rfl, Only.of_below hbw2⟩
            · have i48 : (48 : Int) ≤ (R : Int) := by omega
              have i57 : (57 : Int) < (R : Int) := by omega
              clear hr
              go_wp2
              go_ret2
              exact ⟨by rw [HE.out]; rfl, Only.of_below hbw2⟩
        · have hend : ∀ ty, (Instr.next (.pointer (some ⟨w.heap.size, 0, none⟩)) true ty).run Tryd.prog wr = _ := fun ty => Lib.run_next_end_at wr w.heap.size s pos ty hit (by rw [HS.out]; exact hps)
          obtain rfl : pos = n := by omega
          have HE : Hid (V = .tuple #[.int .i64 (Z : Int), .bool true]) := by
            show _ = _
            have h1 := HA.out
            rw [List.take_of_length_le (by rw [HL.out]; exact Nat.le_refl _)] at h1
            rw [HVV.out, if_pos h1.2, h1.1]
            rfl
          go_wp2
          go_ret2
          exact ⟨by rw [HE.out]; rfl, Only.of_below hbw⟩
end Go.Proofs.YtkcnnbglmckmnaaDoor
namespace Go.Proofs.YtkcnnbglmckmnaaDoor
open Go.RowKit Go.Instr
theorem Bk.six {w : World} {g : Nat} {t : TypeId} {a0 a1 a2 a3 a4 a5 : Value} (h : Bk w g t #[a0, a1, a2, a3, a4, a5]) :
    (w.cell? ⟨g, 0, none⟩ = some a0 ∧ w.cell? ⟨g, 1, none⟩ = some a1 ∧ w.cell? ⟨g, 2, none⟩ = some a2 ∧ w.cell? ⟨g, 3, none⟩ = some a3 ∧ w.cell? ⟨g, 4, none⟩ = some a4 ∧ w.cell? ⟨g, 5, none⟩ = some a5) ∧
    w.frozen? ⟨g, 0, none⟩ = false ∧ w.frozen? ⟨g, 1, none⟩ = false ∧ w.frozen? ⟨g, 2, none⟩ = false ∧ w.frozen? ⟨g, 3, none⟩ = false ∧ w.frozen? ⟨g, 4, none⟩ = false ∧ w.frozen? ⟨g, 5, none⟩ = false := by
  refine ⟨⟨?_, ?_, ?_, ?_, ?_, ?_⟩, h.free _, h.free _, h.free _, h.free _, h.free _, h.free _⟩ <;> (rw [h.cell]; rfl)
theorem Bk.two {w : World} {g : Nat} {t : TypeId} {a0 a1 : Value} (h : Bk w g t #[a0, a1]) :
    (w.cell? ⟨g, 0, none⟩ = some a0 ∧ w.cell? ⟨g, 1, none⟩ = some a1) ∧ w.frozen? ⟨g, 0, none⟩ = false ∧ w.frozen? ⟨g, 1, none⟩ = false := by
  refine ⟨⟨?_, ?_⟩, h.free _, h.free _⟩ <;> (rw [h.cell]; rfl)
def zkA : Array Value := #[.int .i64 0, .int .i64 0, .string ⟨#[]⟩, .string ⟨#[]⟩, .slice none 0 0, .slice none 0 0]
def KeyO (b g : Nat) (d : Int) (w w' : World) (o : Option (Ky × List Tkn)) (vs : List Value) (bo : Bool) : Prop := match o with
  | none => bo = false ∧ ∃ (d' : Int) (T' : List Tkn), d ≤ d' ∧ d' ≤ 5 ∧ Rdr b w' g T' d'
  | some p => bo = true ∧ KyIs (fun x => w.heap.size ≤ x ∧ x < w'.heap.size) w' p.1 vs ∧ Rdr b w' g p.2 d
def KeyR (b g : Nat) (d : Int) (w : World) (o : Option (Ky × List Tkn)) (e : Ending) (w' : World) : Prop :=
  ∃ (kd n : Int) (s t : ByteArray) (SA : Option Addr) (ns sc : Nat) (KA : Option Addr) (nk kc : Nat) (bo : Bool), e = .returned (.tuple #[.agg #[.int .i64 kd, .int .i64 n, .string s, .string t, .slice SA ns sc, .slice KA nk kc], .bool bo]) ∧ Only [g] w w' ∧
    Hid (KeyO b g d w w' o [.int .i64 kd, .int .i64 n, .string s, .string t, .slice SA ns sc, .slice KA nk kc] bo)
theorem KeyO.pass {b g p : Nat} {d : Int} {w w1 w2 w3 : World} {o : Option (Ky × List Tkn)} {vs : List Value} {bo : Bool} (h : KeyO b g d w1 w2 o vs bo) (hw : w.heap.size ≤ w1.heap.size) (hp1 : p < w1.heap.size) (hp : b ≤ p) (o3 : Only [p] w2 w3) : KeyO b g d w w3 o vs bo := by
  cases o with
  | none =>
    obtain ⟨h1, d', T', h2, h3, h4⟩ := h
    exact ⟨h1, d', T', h2, h3, h4.only o3 (fun x hx => by simp at hx; omega)⟩
  | some q =>
    obtain ⟨h1, h2, h3⟩ := h
    have := o3.size
    exact ⟨h1, (h2.only o3 (fun x hx hm => by simp at hm; omega)).mono (fun x hx => by omega), h3.only o3 (fun x hx => by simp at hx; omega)⟩
theorem atom_head (T : List Tkn) : atomArg T = if (headT T).1 = 1 then some ((headT T).2, T.tail) else none := by
  cases T with
  | nil => rfl
  | cons t r => rfl
theorem word_head (T : List Tkn) : wordArg T = if (headT T).1 = 1 ∨ (headT T).1 = 2 then some ((headT T).2, T.tail) else none := by
  cases T with
  | nil =>
    rw [if_neg]
    · rfl
    · show ¬ ((0 : Int) = 1 ∨ (0 : Int) = 2)
      omega
  | cons t r => rfl
end Go.Proofs.YtkcnnbglmckmnaaDoor
namespace Go.Proofs.YtkcnnbglmckmnaaDoor
open Go.RowKit Go.Instr
def MatchC (f : FuncId) (m : Mss) (pl la lu : Int) (k : Ky) : Prop := ∀ (K : Nat → Prop) (w : World) (vs : List Value) (MA : Option Addr) (mn mc : Nat), KyIs K w k vs → Bt w MA mn mc m.body → mn ≤ 4096 → (∀ x ∈ blks MA, x < w.heap.size) → MaxF w → BdK k →
  Calls Tryd.prog f #[.agg vs.toArray, .agg #[.int .i64 m.uid, .int .i64 m.flags, .int .i64 m.date, .slice MA mn mc], .int .i64 pl, .int .i64 la, .int .i64 lu] w fun e w' => e = .returned (.bool (meansK m pl la lu k)) ∧ Only [] w w'
theorem KyIs.shape {K : Nat → Prop} {w : World} {k : Ky} {vs : List Value} (h : KyIs K w k vs) : ∃ (kd n : Int) (s t : ByteArray) (SA : Option Addr) (ns sc : Nat) (KA : Option Addr) (nk kc : Nat), vs = [.int .i64 kd, .int .i64 n, .string s, .string t, .slice SA ns sc, .slice KA nk kc] := by
  obtain ⟨SA, ns, sc, KA, nk, kc, ys, hp⟩ := h.parts
  exact ⟨_, _, _, _, _, _, _, _, _, _, hp.cells⟩
theorem Bk.four {w : World} {g : Nat} {t : TypeId} {a0 a1 a2 a3 : Value} (h : Bk w g t #[a0, a1, a2, a3]) : w.cell? ⟨g, 0, none⟩ = some a0 ∧ w.cell? ⟨g, 1, none⟩ = some a1 ∧ w.cell? ⟨g, 2, none⟩ = some a2 ∧ w.cell? ⟨g, 3, none⟩ = some a3 := by
  refine ⟨?_, ?_, ?_, ?_⟩ <;> (rw [h.cell]; rfl)
theorem Bk.one {w : World} {g : Nat} {t : TypeId} {a0 : Value} (h : Bk w g t #[a0]) : w.cell? ⟨g, 0, none⟩ = some a0 := by
  rw [h.cell]; rfl
section
variable {m : Mss} {pl la lu : Int} {W : World} {MA : Option Addr} {mn mc : Nat} {g1 g2 g3 g4 g5 : Nat} {K : Nat → Prop} {T5 : TypeId}
set_option maxRecDepth 100000 in
set_option maxHeartbeats 1000000 in
theorem says1 (hb1 : Bk W g1 37 #[.int .i64 m.uid, .int .i64 m.flags, .int .i64 m.date, .slice MA mn mc]) (hb2 : Bk W g2 3 #[.int .i64 pl]) (hb3 : Bk W g3 3 #[.int .i64 la]) (hb4 : Bk W g4 3 #[.int .i64 lu])
    (hB : Bt W MA mn mc m.body) (hmn : mn ≤ 4096) (hA : ∀ x ∈ blks MA, x < W.heap.size) (hM : MaxF W) {y : Ky} (ih : MatchC 16 m pl la lu y) (hy : BdK y) :
    SaysK K 25 #[.pointer (some ⟨g1, 0, none⟩), .pointer (some ⟨g2, 0, none⟩), .pointer (some ⟨g3, 0, none⟩), .pointer (some ⟨g4, 0, none⟩)] y (meansK m pl la lu y) W := by
  intro W2 vs hO hk
  obtain ⟨kd, n, s, t, SA, ns, sc, KA, nk, kc, rfl⟩ := hk.shape
  have c1 := hb1.only hO (fun hm => nomatch hm)
  have c2 := (hb2.only hO (fun hm => nomatch hm)).one
  have c3 := (hb3.only hO (fun hm => nomatch hm)).one
  have c4 := (hb4.only hO (fun hm => nomatch hm)).one
  have l1 := c1.lt
  have l2 := block_lt_of_cell c2
  have l3 := block_lt_of_cell c3
  have l4 := block_lt_of_cell c4
  simp only at l2 l3 l4
  obtain ⟨m0, m1, m2, m3⟩ := c1.four
  have hO3 : Only [] W2 (W2.alloc (.cells #[.int .i64 kd, .int .i64 n, .string s, .string t, .slice SA ns sc, .slice KA nk kc] 27)) := (Only.refl _ _).alloc _
  have HC := Lib.hid (ih K (W2.alloc (.cells #[.int .i64 kd, .int .i64 n, .string s, .string t, .slice SA ns sc, .slice KA nk kc] 27)) _ MA mn mc (hk.keep hO3) ((hB.keep hO).keep hO3) hmn (fun x hx => by have h1 := hA x hx; have h2 := hO.size; have h3 := hO3.size; omega) ((hM.keep hO).keep hO3) hy)
  have HO3 := Lib.hid hO3
  clear hO3 hk ih hB hM hA hb1 hb2 hb3 hb4 c1 hO
  show Calls _ _ #[.agg #[.int .i64 kd, .int .i64 n, .string s, .string t, .slice SA ns sc, .slice KA nk kc], .pointer (some ⟨g1, 0, none⟩), .pointer (some ⟨g2, 0, none⟩), .pointer (some ⟨g3, 0, none⟩), .pointer (some ⟨g4, 0, none⟩)] _ _
  obtain ⟨R, hR⟩ : ∃ R, meansK m pl la lu y = R := ⟨_, rfl⟩
  rw [hR] at HC ⊢
  clear hR
  go_enter Tryd.func25, Tryd.ntmps25
  go_wp2_with (go_at_call 16; refine HC.out.mono ?_; rintro e w2 ⟨rfl, O2⟩)
  go_ret
  exact ⟨rfl, HO3.out.then O2⟩
theorem enters_Match1 : ∀ args w, (callFunc 25 args).run Tryd.prog w = .ok (.enter 25 args) w := Go.Proofs.enters_of Tryd.func25 (by kernel_rfl) rfl
theorem enters_Match2 : ∀ args w, (callFunc 26 args).run Tryd.prog w = .ok (.enter 26 args) w := Go.Proofs.enters_of Tryd.func26 (by kernel_rfl) rfl
set_option maxRecDepth 100000 in
set_option maxHeartbeats 1000000 in
theorem says2 {lb : Array Value} {y : Ky} {b : Bool} (hb5 : Bk W g5 T5 #[.func (.func 25) #[] lb]) (hs : SaysK K 25 lb y b W) : SaysK K 26 #[.pointer (some ⟨g5, 0, none⟩)] y (!b) W := by
  intro W2 vs hO hk
  obtain ⟨kd, n, s, t, SA, ns, sc, KA, nk, kc, rfl⟩ := hk.shape
  have c5 := (hb5.only hO (fun hm => nomatch hm)).one
  have l5 := block_lt_of_cell c5
  simp only at l5
  have hO3 : Only [] W2 (W2.alloc (.cells #[.int .i64 kd, .int .i64 n, .string s, .string t, .slice SA ns sc, .slice KA nk kc] 27)) := (Only.refl _ _).alloc _
  have HC := Lib.hid (hs _ _ (hO.then hO3) (hk.keep hO3))
  have HO3 := Lib.hid hO3
  have eg := enters_Match1
  clear hO3 hk hs hb5 hO
  show Calls _ _ #[.agg #[.int .i64 kd, .int .i64 n, .string s, .string t, .slice SA ns sc, .slice KA nk kc], .pointer (some ⟨g5, 0, none⟩)] _ _
  go_enter Tryd.func26, Tryd.ntmps26
  go_wp2_with (go_at_fn 25; refine HC.out.mono ?_; rintro e w2 ⟨rfl, O2⟩)
  go_ret
  exact ⟨rfl, HO3.out.then O2⟩
end
end Go.Proofs.YtkcnnbglmckmnaaDoor
