import Derived.Test.YtblggoneifmoeaaDoorJOne
/-
  ledger's Append: the walk.
-/
namespace Go.Proofs.YtblggoneifmoeaaDoor
open Go.RowKit Go.Maps
/-- The number that Append answers. -/
def appN (S : St) (log : ByteArray) (L : LS) (p : List UInt8) : Nat := if appE S log L p = 0 then L.last + 1 else 0
theorem layE_cases (S : St) (s : ByteArray) (r : List UInt8) : layE S s r = 0 ∨ layE S s r = 1 ∨ layE S s r = 6 ∨ layE S s r = 7 ∨ layE S s r = 9 := by
  unfold layE
  have h1 := errA_cases S s r
  have h2 := errF_cases (appendS S s r) s
  split <;> omega
section
variable {w : World} {d g : Nat} {img log : ByteArray} {F G : List Nat} {S : St} {L : LS}
/-- Nothing has turned. -/
theorem jd_same {v : Value} {e : Ending} {w' : World} (hD : Disk w d F S) (hL : Lg w d g img log G L) (hFG : ∀ x ∈ F, x ∉ G) (he : e = .returned v) (o : Only [] w w') : Jd d g img log F G S L v w e w' :=
  ⟨he, F, G, hD.keep o, hL.keep o, hFG, o.mono (fun _ h => nomatch h), fun _ hx => .inl hx, fun _ hx => .inl hx⟩
set_option maxRecDepth 100000 in
theorem append_bad (hD : Disk w d F S) (h : Lg w d g img log G L) (hFG : ∀ x ∈ F, x ∉ G) (A : Option Addr) (n c : Nat) (p : List UInt8) (hl : p.length = n) (hb : L.dead = true ∨ 65536 < p.length ∨ 1099511627776 < L.last + 1) :
    Calls Tryd.prog 11 #[.pointer (some ⟨g, 0, none⟩), .slice A n c] w (Jd d g img log F G (appS S log L p) (appL S log L p) (.tuple #[.int .i64 (appN S log L p : Nat), .int .i64 (appE S log L p : Nat)]) w) := by
  have HY := Lib.hid (ready_any h)
  have HL := Lib.hid (Last_any h)
  obtain ⟨b1, _, b3⟩ := h.bounds
  have hk : L.last ≤ 2199023255552 := by unfold LS.last; omega
  subst hl
  cases hd : L.dead
  · rw [hd] at HY
    have hb' : 65536 < p.length ∨ 1099511627776 < L.last + 1 := by
      rcases hb with hb | hb
      · rw [hd] at hb; cases hb
      · exact hb
    have e1 : appS S log L p = S := by unfold appS; rw [hd, if_neg (by simp), if_pos hb']
    have e2 : appE S log L p = 5 := by unfold appE; rw [hd, if_neg (by simp), if_pos hb']
    have e3 : appL S log L p = L := by unfold appL; rw [hd, if_neg (by simp), if_pos hb']
    have e4 : appN S log L p = 0 := by unfold appN; rw [e2, if_neg (by omega)]
    rw [e1, e2, e3, e4]
    have HJ := Lib.hid (fun (v : Value) (e : Ending) (w' : World) (he : e = .returned v) (o : Only [] w w') => jd_same hD h hFG he o)
    clear e1 e2 e3 e4 hb hd hD h hFG
    generalize hkk : L.last = k at *
    clear hkk
    by_cases hlong : 65536 < p.length
    · clear hb'
      go_enter Tryd.func11, Tryd.ntmps11
      go_wp2_with (first
        | (go_at_call 25; refine HY.out.mono ?_; clear HY; rintro e w1 ⟨rfl, rfl⟩)
        | (go_at_call 13; refine HL.out.mono ?_; clear HL; rintro e w1 ⟨rfl, O1⟩))
      go_ret2
      exact HJ.out _ _ _ rfl O1
    · have hnum : 1099511627776 < k + 1 := by omega
      clear hb'
      go_enter Tryd.func11, Tryd.ntmps11
      go_wp2_with (first
        | (go_at_call 25; refine HY.out.mono ?_; clear HY; rintro e w1 ⟨rfl, rfl⟩)
        | (go_at_call 13; refine HL.out.mono ?_; clear HL; rintro e w1 ⟨rfl, O1⟩))
      go_ret2
      exact HJ.out _ _ _ rfl O1
  · rw [hd] at HY
    have e1 : appS S log L p = S := by unfold appS; rw [hd, if_pos rfl]
    have e2 : appE S log L p = 9 := by unfold appE; rw [hd, if_pos rfl]
    have e3 : appL S log L p = L := by unfold appL; rw [hd, if_pos rfl]
    have e4 : appN S log L p = 0 := by unfold appN; rw [e2, if_neg (by omega)]
    rw [e1, e2, e3, e4]
    have HJ := Lib.hid (fun (v : Value) (e : Ending) (w' : World) (he : e = .returned v) (o : Only [] w w') => jd_same hD h hFG he o)
    clear e1 e2 e3 e4 hb hd hD h hFG HL
    go_enter Tryd.func11, Tryd.ntmps11
    go_wp2_with (go_at_call 25; refine HY.out.mono ?_; clear HY; rintro e w1 ⟨rfl, rfl⟩)
    go_ret2
    exact HJ.out _ _ _ rfl (Only.refl _ _)

set_option maxRecDepth 100000 in
theorem append_err (hD : Disk w d F S) (h : Lg w d g img log G L) (hFG : ∀ x ∈ F, x ∉ G) (A : Option Addr) (n c : Nat) (p : List UInt8) (hs : Sl w A n (bvs p)) (ht : Tab w)
    (h1 : L.dead = false) (h2 : p.length ≤ 65536) (h3 : L.last + 1 ≤ 1099511627776) (he : layE S log (record (numd (L.last + 1) p)) ≠ 0) :
    Calls Tryd.prog 11 #[.pointer (some ⟨g, 0, none⟩), .slice A n c] w (Jd d g img log F G (appS S log L p) (appL S log L p) (.tuple #[.int .i64 (appN S log L p : Nat), .int .i64 (appE S log L p : Nat)]) w) := by
  have HY := Lib.hid (ready_any h)
  have HL := Lib.hid (Last_any h)
  have hl : p.length = n := by simpa using hs.len
  obtain ⟨q, hq⟩ : ∃ q, q = numd (L.last + 1) p := ⟨_, rfl⟩
  have hql := numd_len h3 (by omega : p.length ≤ 1099511627776)
  rw [← hq] at hql he
  have e1 : appS S log L p = layS S log (record q) := by unfold appS; rw [h1, if_neg (by simp), if_neg (by omega), ← hq]
  have e2 : appE S log L p = layE S log (record q) := by unfold appE; rw [h1, if_neg (by simp), if_neg (by omega), ← hq]
  have e3 : appL S log L p = { L with dead := true } := by unfold appL; rw [h1, if_neg (by simp), if_neg (by omega), ← hq, if_neg he]
  have e4 : appN S log L p = 0 := by unfold appN; rw [e2, if_neg he]
  rw [e1, e2, e3, e4]
  rw [h1] at HY
  have HN := Lib.hid (fun (W : World) (o : Only [] w W) => numbered_any (L.last + 1) A n c p W h3 (hs.keep o) (by omega))
  rw [← hq] at HN
  have HX := Lib.hid (fun (W : World) (o : Only [] w W) (A : Option Addr) (n c : Nat) (hs : Sl W A n (bvs q)) (hn : n ≤ 1048576) => layRecord_any (hD.keep o) (h.keep o) hFG A n c q hs hn (ht.keep o))
  have HZ := Lib.hid (fun (W : World) (o : Only F w W) (x : Int) => die_any (h.only o (fun x hx hm => hFG x hm hx)) x)
  have hcast : ((L.last + 1 : Nat) : Int) = (L.last : Int) + 1 := by omega
  rw [hcast] at HN
  have HF := Lib.hid hFG
  have HG := Lib.hid h.g_mem
  have HLt := Lib.hid (fun (x : Nat) (hx : x ∈ G) => h.lt hx)
  generalize layS S log (record q) = S1 at *
  generalize hkk : L.last = k at *
  have hr := layE_cases S log (record q)
  generalize layE S log (record q) = r at *
  clear e1 e2 e3 e4 h1 hD h hFG ht hs hq hkk hcast
  rcases hr with hr | hr | hr | hr | hr
  · exact absurd hr he
  all_goals
    subst hr
    clear he
    go_enter Tryd.func11, Tryd.ntmps11
    go_wp2_with (first
      | (go_at_call 25; refine HY.out.mono ?_; clear HY; rintro e w1 ⟨rfl, rfl⟩)
      | (go_at_call 28; refine (HZ.out w3 O3 _).mono ?_; clear HZ; rintro e w4 ⟨rfl, L4, O4⟩)
      | (go_at_call 26; refine (HX.out w2 (O1.then O2) A1 _ c1 V1.sl (by omega)).mono ?_; clear HX; rintro e w3 ⟨rfl, hD3⟩; obtain ⟨F3, D3, O3, B3⟩ := chained (F := F) ((O1.then O2).mono (fun _ h => nomatch h)) (fun _ h => .inl h) hD3)
      | (go_at_call 27; refine (HN.out _ O1).mono ?_; clear HN; rintro e w2 ⟨A1, c1, rfl, V1, O2, B2⟩)
      | (go_at_call 13; refine HL.out.mono ?_; clear HL; rintro e w1 ⟨rfl, O1⟩))
    go_ret2
    have hgF : g ∉ F3 := fun hm => by
      rcases B3 g hm with hx | hx
      · exact HF.out g hx HG.out
      · have := HLt.out g HG.out; omega
    refine ⟨rfl, F3, G, D3.only O4 (fun x hx hm => hgF (by simp at hm; subst hm; exact hx)), L4, fun x hx hm => ?_, (O3.mono (ss := F ++ G) (fun x hx => .inl (by simp [hx]))).trans O4 (fun x hx => .inl (by simp at hx; subst hx; simp [HG.out])), B3, fun x hx => .inl hx⟩
    rcases B3 x hx with hy | hy
    · exact HF.out x hy hm
    · have := HLt.out x hm; omega
end
end Go.Proofs.YtblggoneifmoeaaDoor
/-
  ledger's Append: an entry laid.
-/
namespace Go.Proofs.YtblggoneifmoeaaDoor
open Go.RowKit Go.Maps
section
variable {w : World} {d g : Nat} {img log : ByteArray} {F G : List Nat} {S : St} {L : LS}
set_option maxHeartbeats 800000 in
set_option maxRecDepth 100000 in
theorem append_ok (hD : Disk w d F S) (h : Lg w d g img log G L) (hFG : ∀ x ∈ F, x ∉ G) (A : Option Addr) (n c : Nat) (p : List UInt8) (hs : Sl w A n (bvs p)) (hp : 0 < n → ∀ ad, A = some ad → ad.block ∉ F) (ht : Tab w)
    (h1 : L.dead = false) (h2 : p.length ≤ 65536) (h3 : L.last + 1 ≤ 1099511627776) (he : layE S log (record (numd (L.last + 1) p)) = 0) :
    Calls Tryd.prog 11 #[.pointer (some ⟨g, 0, none⟩), .slice A n c] w (Jd d g img log F G (appS S log L p) (appL S log L p) (.tuple #[.int .i64 (appN S log L p : Nat), .int .i64 (appE S log L p : Nat)]) w) := by
  obtain ⟨i0, hi, hz0, hz1, hz2⟩ := info_parts infoBytes
  have HY := Lib.hid (ready_any h)
  have HL := Lib.hid (Last_any h)
  have hl : p.length = n := by simpa using hs.len
  obtain ⟨q, hq⟩ : ∃ q, q = numd (L.last + 1) p := ⟨_, rfl⟩
  have hql := numd_len h3 (by omega : p.length ≤ 1099511627776)
  rw [← hq] at hql he
  have e2 : appE S log L p = 0 := by unfold appE; rw [h1, if_neg (by simp), if_neg (by omega), ← hq]; exact he
  have e1 : appS S log L p = layS S log (record q) := by unfold appS; rw [h1, if_neg (by simp), if_neg (by omega), ← hq]
  have e3 : appL S log L p = { L with es := L.es ++ [p] } := by unfold appL; rw [h1, if_neg (by simp), if_neg (by omega), ← hq, if_pos he]
  have e4 : appN S log L p = L.last + 1 := by unfold appN; rw [e2, if_pos rfl]
  rw [e1, e2, e3, e4]
  rw [h1] at HY
  have HN := Lib.hid (fun (W : World) (o : Only [] w W) => numbered_any (L.last + 1) A n c p W h3 (hs.keep o) (by omega))
  rw [← hq] at HN
  have HX := Lib.hid (fun (W : World) (o : Only [] w W) (A : Option Addr) (n c : Nat) (hs : Sl W A n (bvs q)) (hn : n ≤ 1048576) => layRecord_any (hD.keep o) (h.keep o) hFG A n c q hs hn (ht.keep o))
  have hcast : ((L.last + 1 : Nat) : Int) = (L.last : Int) + 1 := by omega
  rw [hcast] at HN ⊢
  have HF := Lib.hid hFG
  have HG := Lib.hid h.g_mem
  have HLt := Lib.hid (fun (x : Nat) (hx : x ∈ G) => h.lt hx)
  have HLg := Lib.hid (fun (W : World) (o : Only F w W) => h.only o (fun x hx hm => hFG x hm hx))
  have HCL := Lib.hid (fun (W : World) (o : Only F w W) => clone_any A n c p W (hs.only' o hp) (by omega))
  have HB := Lib.hid (show L.es.length + 1 ≤ 1099511627776 by unfold LS.last at h3; omega)
  generalize layS S log (record q) = S1 at *
  generalize hkk : L.last = k at *
  rw [he] at HX
  clear e1 e2 e3 e4 h1 hD h hFG ht hs hq hkk hcast he
  go_enter Tryd.func11, Tryd.ntmps11
  go_wp2_with (first
    | (go_at_call 25; refine HY.out.mono ?_; clear HY; rintro e w1 ⟨rfl, rfl⟩)
    | (go_at_call 26; refine (HX.out w2 (O1.then O2) A1 _ c1 V1.sl (by omega)).mono ?_; clear HX; rintro e w3 ⟨rfl, hD3⟩; obtain ⟨F3, D3, O3, B3⟩ := chained (F := F) ((O1.then O2).mono (fun _ h => nomatch h)) (fun _ h => .inl h) hD3)
    | (go_at_call 27; refine (HN.out _ O1).mono ?_; clear HN; rintro e w2 ⟨A1, c1, rfl, V1, O2, B2⟩)
    | (go_at_call 13; refine HL.out.mono ?_; clear HL; rintro e w1 ⟨rfl, O1⟩))
  obtain ⟨Ad, cd, Ae, ce, g1, g2, ⟨g3, vs, g4, g5, g6⟩, g7, g8, g9, g10, g11, g12⟩ := HLg.out w3 O3
  have c5 : w3.cell? ⟨g, 5, none⟩ = some (.slice Ae L.es.length ce) := by rw [g1.cell]; rfl
  have HGB := Lib.hid g1
  have HGE := Lib.hid g4
  obtain ⟨m, hm⟩ : ∃ m, L.es.length = m := ⟨_, rfl⟩
  have HM := Lib.hid hm
  have hb := HB.out
  have e1 : L.es.length = vs.length := g4.len.symm
  have HFIN : Hid (∀ (A4 L2 : Option Addr) (c4 c2 : Nat) (w4 w5 : World) (o : Obj), Only [] w3 w4 → Own w4 5 A4 n c4 (bvs p) → (∀ x ∈ blks A4, w3.heap.size ≤ x) → Only (blks Ae) (w4.alloc o) w5 → Own w5 23 L2 (m + 1) c2 (vs ++ [.slice A4 n c4]) →
      (∀ x ∈ blks L2, x ∈ blks Ae ∨ (w4.alloc o).heap.size ≤ x) → Jd d g img log F G S1 { L with es := L.es ++ [p] } (.tuple #[.int .i64 ((k : Int) + 1), .int .i64 0]) w (.returned (.tuple #[.int .i64 ((k : Int) + 1), .int .i64 0])) (w5.setCell ⟨g, 5, none⟩ (.slice L2 (m + 1) c2))) := by
    intro A4 L2 c4 c2 w4 w5 o O4 V4 B4 O5 HV2 B5
    have g4' := HGE.out
    have h45 := Nat.le_trans ((O4.alloc o).size) O5.size
    have h44 := (O4.alloc o).size
    have h33 := O3.size
    subst hm
    subst hl
    obtain ⟨HL6, O6⟩ := lg_snoc (p := p) HGB.out g2 e1 g4' g6 g7 g8 g9 ⟨g10, g11⟩ hb g12.2 (by omega) (O4.alloc o) (V4.alloc o) O5 HV2
    have hdis : ∀ x ∈ F3, x ∉ G := fun x hx hm => by
      rcases B3 x hx with hy | hy
      · exact HF.out x hy hm
      · have := HLt.out x hm; omega
    have hnew : ∀ x ∈ G ++ (blks L2 ++ blks A4), x ∈ G ∨ w3.heap.size ≤ x := fun x hx => by
      simp only [List.mem_append] at hx
      rcases hx with hx | hx | hx
      · exact .inl hx
      · rcases B5 x hx with hy | hy
        · exact .inl (g5 x hy)
        · exact .inr (by omega)
      · exact .inr (B4 x hx)
    have hrs : ∀ x ∈ g :: blks Ae, x ∈ G := fun x hx => by
      rcases List.mem_cons.1 hx with hy | hy
      · subst hy; exact HG.out
      · exact g5 x hy
    refine ⟨rfl, F3, _, D3.only O6 (fun x hx hm => hdis x hx (hrs x hm)), HL6, fun x hx hm => ?_, (O3.mono (ss := F ++ G) (fun x hx => .inl (by simp [hx]))).trans O6 (fun x hx => .inl (by simp [hrs x hx])), B3, fun x hx => ?_⟩
    · rcases hnew x hm with hy | hy
      · exact hdis x hx hy
      · have := D3.lt hx; omega
    · rcases hnew x hx with hy | hy
      · exact .inl hy
      · exact .inr (by omega)
  rw [hm] at c5 HGE hb
  clear g1 g4
  go_region_law (first
    | (refine step_append_sl rfl (.tmp 38) (.tmp 41) 22 rfl 23 i0 (.slice none 0 0) 24 Tryd.underlying22 hi hz0 hz1 hz2 rfl Ae m ce vs (by simp [Act.eval]) ((HGE.out.keep O4).alloc _) _ 1 1 _ (by simp [Act.eval]) (Sl.of_bk (Bk.new _ _ #[.slice A4 n c4])) (one_row _ _ _) (by unfold maxLen; omega) (by omega) ?_; intro L2 c2 w5 HV2 O5 B5; have j5 : w5.cell? ⟨g, 5, none⟩ = some (.slice Ae m ce) := O5.cellSome ((((Only.refl [] w4).alloc _)).cellSome k5 (fun hm => nomatch hm)) (own_off (HGE.out.keep O4) (HGB.out.only O4 (fun hm => nomatch hm)) (by decide)); have f5 : w5.frozen? ⟨g, 5, none⟩ = false := (((HGB.out.only O4 (fun hm => nomatch hm)).only ((Only.refl [] w4).alloc _) (fun hm => nomatch hm)).only O5 (own_off (HGE.out.keep O4) (HGB.out.only O4 (fun hm => nomatch hm)) (by decide))).free 5)
    | (go_simp; go_at_call 29; refine (HCL.out _ O3.drew).mono ?_; rintro e w4 ⟨A4, c4, rfl, V4, O4, B4⟩; rw [hl] at V4; have O4 : Only [] w3 w4 := ((Only.refl [] w3).drew).then O4; have k5 := O4.cellSome c5 (fun hm => nomatch hm); have k5a := ((Only.refl [] w4).alloc (.cells #[.slice A4 n c4] 23)).cellSome k5 (fun hm => nomatch hm)))
  all_goals
    go_wp2
    go_ret2
    exact HFIN.out _ _ _ _ w4 w5 _ O4 V4 B4 O5 HV2 B5
end
end Go.Proofs.YtblggoneifmoeaaDoor
/-
  ledger's Append as one contract; Write: what goes wrong.
-/
namespace Go.Proofs.YtblggoneifmoeaaDoor
open Go.RowKit Go.Maps
section
variable {w : World} {d g : Nat} {img log : ByteArray} {F G : List Nat} {S : St} {L : LS}
/-- Append. -/
theorem lappend_any (hD : Disk w d F S) (h : Lg w d g img log G L) (hFG : ∀ x ∈ F, x ∉ G) (A : Option Addr) (n c : Nat) (p : List UInt8) (hs : Sl w A n (bvs p)) (hp : 0 < n → ∀ ad, A = some ad → ad.block ∉ F) (ht : Tab w) :
    Calls Tryd.prog 11 #[.pointer (some ⟨g, 0, none⟩), .slice A n c] w (Jd d g img log F G (appS S log L p) (appL S log L p) (.tuple #[.int .i64 (appN S log L p : Nat), .int .i64 (appE S log L p : Nat)]) w) := by
  have hl : p.length = n := by simpa using hs.len
  by_cases hb : L.dead = true ∨ 65536 < p.length ∨ 1099511627776 < L.last + 1
  · exact append_bad hD h hFG A n c p hl hb
  · have h1 : L.dead = false := by
      cases hd : L.dead
      · rfl
      · exact absurd (.inl hd) hb
    have h2 : p.length ≤ 65536 := by
      rcases Nat.lt_or_ge 65536 p.length with hx | hx
      · exact absurd (.inr (.inl hx)) hb
      · exact hx
    have h3 : L.last + 1 ≤ 1099511627776 := by
      rcases Nat.lt_or_ge 1099511627776 (L.last + 1) with hx | hx
      · exact absurd (.inr (.inr hx)) hb
      · exact hx
    by_cases he : layE S log (record (numd (L.last + 1) p)) = 0
    · exact append_ok hD h hFG A n c p hs hp ht h1 h2 h3 he
    · exact append_err hD h hFG A n c p hs ht h1 h2 h3 he
set_option maxRecDepth 100000 in
theorem write_bad (hD : Disk w d F S) (h : Lg w d g img log G L) (hFG : ∀ x ∈ F, x ∉ G) (i : Int) (hi : -9223372036854775808 ≤ i ∧ i ≤ 9223372036854775807) (A : Option Addr) (n c : Nat) (p : List UInt8) (hl : p.length = n) (hb : L.dead = true ∨ i < (L.last : Int) ∨ 1099511627776 < i ∨ 524288 < p.length) :
    Calls Tryd.prog 12 #[.pointer (some ⟨g, 0, none⟩), .int .i64 i, .slice A n c] w (Jd d g img log F G (wrS S img log L i p) (wrL S img log L i p) (.int .i64 (wrE S img log L i p : Nat)) w) := by
  have HY := Lib.hid (ready_any h)
  have HL := Lib.hid (Last_any h)
  obtain ⟨b1, _, b3⟩ := h.bounds
  have hk : L.last ≤ 2199023255552 := by unfold LS.last; omega
  subst hl
  have HJ := Lib.hid (fun (v : Value) (e : Ending) (w' : World) (he : e = .returned v) (o : Only [] w w') => jd_same hD h hFG he o)
  cases hd : L.dead
  · rw [hd] at HY
    by_cases hbi : i < (L.last : Int) ∨ 1099511627776 < i
    · have e1 : wrS S img log L i p = S := by unfold wrS; rw [hd, if_neg (by simp), if_pos hbi]
      have e2 : wrE S img log L i p = 1 := by unfold wrE; rw [hd, if_neg (by simp), if_pos hbi]
      have e3 : wrL S img log L i p = L := by unfold wrL; rw [hd, if_neg (by simp), if_pos hbi]
      rw [e1, e2, e3]
      clear e1 e2 e3 hb hd hD h hFG
      generalize hkk : L.last = k at *
      clear hkk
      by_cases h1 : i < (k : Int)
      · clear hbi
        go_enter Tryd.func12, Tryd.ntmps12
        go_wp2_with (first
          | (go_at_call 25; refine HY.out.mono ?_; clear HY; rintro e w1 ⟨rfl, rfl⟩)
          | (go_at_call 13; refine HL.out.mono ?_; clear HL; rintro e w1 ⟨rfl, O1⟩))
        go_ret
        exact HJ.out _ _ _ rfl O1
      · have h2 : 1099511627776 < i := by omega
        clear hbi
        go_enter Tryd.func12, Tryd.ntmps12
        go_wp2_with (first
          | (go_at_call 25; refine HY.out.mono ?_; clear HY; rintro e w1 ⟨rfl, rfl⟩)
          | (go_at_call 13; refine HL.out.mono ?_; clear HL; rintro e w1 ⟨rfl, O1⟩))
        go_ret
        exact HJ.out _ _ _ rfl O1
    · have hlong : 524288 < p.length := by
        rcases hb with hb | hb | hb | hb
        · rw [hd] at hb; cases hb
        · exact absurd (.inl hb) hbi
        · exact absurd (.inr hb) hbi
        · exact hb
      have e1 : wrS S img log L i p = S := by unfold wrS; rw [hd, if_neg (by simp), if_neg hbi, if_pos hlong]
      have e2 : wrE S img log L i p = 5 := by unfold wrE; rw [hd, if_neg (by simp), if_neg hbi, if_pos hlong]
      have e3 : wrL S img log L i p = L := by unfold wrL; rw [hd, if_neg (by simp), if_neg hbi, if_pos hlong]
      rw [e1, e2, e3]
      clear e1 e2 e3 hb hd hD h hFG
      generalize hkk : L.last = k at *
      clear hkk
      have h1 : ¬ i < (k : Int) := by omega
      have h2 : ¬ 1099511627776 < i := by omega
      clear hbi
      go_enter Tryd.func12, Tryd.ntmps12
      go_wp2_with (first
        | (go_at_call 25; refine HY.out.mono ?_; clear HY; rintro e w1 ⟨rfl, rfl⟩)
        | (go_at_call 13; refine HL.out.mono ?_; clear HL; rintro e w1 ⟨rfl, O1⟩))
      go_ret
      exact HJ.out _ _ _ rfl O1
  · rw [hd] at HY
    have e1 : wrS S img log L i p = S := by unfold wrS; rw [hd, if_pos rfl]
    have e2 : wrE S img log L i p = 9 := by unfold wrE; rw [hd, if_pos rfl]
    have e3 : wrL S img log L i p = L := by unfold wrL; rw [hd, if_pos rfl]
    rw [e1, e2, e3]
    clear e1 e2 e3 hb hd hD h hFG HL
    go_enter Tryd.func12, Tryd.ntmps12
    go_wp2_with (go_at_call 25; refine HY.out.mono ?_; clear HY; rintro e w1 ⟨rfl, rfl⟩)
    go_ret
    exact HJ.out _ _ _ rfl (Only.refl _ _)
end
end Go.Proofs.YtblggoneifmoeaaDoor
/-
  ledger's Write: an image saved, the log removed.
-/
namespace Go.Proofs.YtblggoneifmoeaaDoor
open Go.RowKit Go.Maps
section
variable {w : World} {d g : Nat} {img log : ByteArray} {F G : List Nat} {S : St} {L : LS}
/-- Behind a change of the disk the ledger is dead. -/
theorem jd_dead {S3 : St} {F3 : List Nat} {w3 w4 : World} {v : Value} (hG : g ∈ G) (hFG : ∀ x ∈ F, x ∉ G) (hlt : ∀ x ∈ G, x < w.heap.size) (D3 : Disk w3 d F3 S3) (O3 : Only F w w3) (B3 : ∀ x ∈ F3, x ∈ F ∨ w.heap.size ≤ x) (L4 : Lg w4 d g img log G L) (O4 : Only [g] w3 w4) :
    Jd d g img log F G S3 L v w (.returned v) w4 := by
  have hdis : ∀ x ∈ F3, x ∉ G := fun x hx hm => by
    rcases B3 x hx with hy | hy
    · exact hFG x hy hm
    · have := hlt x hm; omega
  exact ⟨rfl, F3, G, D3.only O4 (fun x hx hm => by simp at hm; subst hm; exact hdis x hx hG), L4, hdis, (O3.mono (ss := F ++ G) (fun x hx => .inl (by simp [hx]))).trans O4 (fun x hx => .inl (by simp at hx; subst hx; simp [hG])), B3, fun x hx => .inl hx⟩
set_option maxHeartbeats 800000 in
set_option maxRecDepth 100000 in
theorem write_err1 (hD : Disk w d F S) (h : Lg w d g img log G L) (hFG : ∀ x ∈ F, x ∉ G) (i : Int) (A : Option Addr) (n c : Nat) (p : List UInt8) (hs : Sl w A n (bvs p)) (ht : Tab w)
    (h1 : L.dead = false) (h2 : (L.last : Int) ≤ i) (h3 : i ≤ 1099511627776) (h4 : p.length ≤ 524288) (he : saveE S img (numd i.toNat p) ≠ 0) :
    Calls Tryd.prog 12 #[.pointer (some ⟨g, 0, none⟩), .int .i64 i, .slice A n c] w (Jd d g img log F G (wrS S img log L i p) (wrL S img log L i p) (.int .i64 (wrE S img log L i p : Nat)) w) := by
  obtain ⟨c0, c1, c2, _, _, _, _, hg⟩ := h.cells
  have HY := Lib.hid (ready_any h)
  have HL := Lib.hid (Last_any h)
  have hl : p.length = n := by simpa using hs.len
  have hgF : g ∉ F := fun hm => hFG g hm h.g_mem
  have hti : ((i.toNat : Nat) : Int) = i := by omega
  obtain ⟨q, hq⟩ : ∃ q, q = numd i.toNat p := ⟨_, rfl⟩
  have hql := numd_len (k := i.toNat) (by omega) (by omega : p.length ≤ 1099511627776)
  rw [← hq] at hql he
  have HN := Lib.hid (fun (W : World) (o : Only [] w W) => numbered_any i.toNat A n c p W (by omega) (hs.keep o) (by omega))
  rw [← hq, hti] at HN
  have HX := Lib.hid (fun (W : World) (o : Only [] w W) (A1 : Option Addr) (c1 : Nat) (hs : Sl W A1 q.length (bvs q)) => save_any (hD.keep (o.alloc (.cells #[.slice A1 q.length c1] 23))) img (some ⟨W.heap.size, 0, none⟩) 1 1 [q] q (by simp) (Rw.one (Bk.new W _ #[.slice A1 q.length c1]) (hs.alloc _)) (ht.keep (o.alloc _)) (by omega) (by omega))
  have HF := Lib.hid hFG
  have HG := Lib.hid h.g_mem
  have HLt := Lib.hid (fun (x : Nat) (hx : x ∈ G) => h.lt hx)
  have HLg := Lib.hid (fun (W : World) (o : Only F w W) => h.only o (fun x hx hm => hFG x hm hx))
  have h1i : ¬ i < (L.last : Int) := by omega
  have h2i : ¬ 1099511627776 < i := by omega
  have h3i : ¬ 524288 < p.length := by omega
  have hbi : ¬ (i < (L.last : Int) ∨ 1099511627776 < i) := by omega
  have e1 : wrS S img log L i p = saveS S img q := by unfold wrS; rw [h1, if_neg (by simp), if_neg hbi, if_neg h3i, ← hq, if_neg he]
  have e2 : wrE S img log L i p = saveE S img q := by unfold wrE; rw [h1, if_neg (by simp), if_neg hbi, if_neg h3i, ← hq, if_neg he]
  have e3 : wrL S img log L i p = { L with dead := true } := by unfold wrL; rw [h1, if_neg (by simp), if_neg hbi, if_neg h3i, ← hq, if_neg (by omega)]
  rw [e1, e2, e3]
  rw [h1] at HY
  have hne := nat_ne _ he
  generalize saveS S img q = S1 at *
  generalize hrr : ((saveE S img q : Nat) : Int) = r at *
  generalize hkk : L.last = k at *
  clear e1 e2 e3 h1 hD h hFG ht hs hq hkk he hrr hti hbi
  go_enter Tryd.func12, Tryd.ntmps12
  go_wp2_with (first
    | (go_at_call 25; refine HY.out.mono ?_; clear HY; rintro e w1 ⟨rfl, rfl⟩)
    | (go_at_call 13; refine HL.out.mono ?_; clear HL; rintro e w1 ⟨rfl, O1⟩; have k0 := O1.cellSome c0 (fun hm => nomatch hm); have k1 := O1.cellSome c1 (fun hm => nomatch hm)))
  go_region_held3 (fun w' => w'.cell? ⟨g, 0, none⟩ = some (.pointer (some ⟨d, 0, none⟩)) ∧ w'.cell? ⟨g, 1, none⟩ = some (.string img)) (first | go_keep | exact ⟨i0, i1⟩ | exact ⟨j0, j1⟩)
    (first
      | (go_at_call 30; refine (HX.out w2 (O1.drew.then O2) A1 c1' V1.sl).mono ?_; clear HX; rintro e w3 ⟨rfl, hD3⟩; obtain ⟨F3, D3, O3, B3⟩ := chained (F := F) (((O1.drew.then O2).alloc _).mono (fun _ h => nomatch h)) (fun _ h => .inl h) hD3; have i0 := O3.cellSome c0 hgF; have i1 := O3.cellSome c1 hgF)
      | (go_at_call 27; refine (HN.out _ O1.drew).mono ?_; clear HN; rintro e w2 ⟨A1, c1', rfl, V1, O2, B2⟩; have j0 := (O1.drew.then O2).cellSome c0 (fun hm => nomatch hm); have j1 := (O1.drew.then O2).cellSome c1 (fun hm => nomatch hm)))
  all_goals
    go_wp2_with (go_at_call 28; refine (die_any (HLg.out w3 O3) _).mono ?_; rintro e w4 ⟨rfl, L4, O4⟩)
    go_ret
    exact jd_dead HG.out HF.out HLt.out D3 O3 B3 L4 O4
end
end Go.Proofs.YtblggoneifmoeaaDoor
/-
  ledger's Write: the log is not removed.
-/
namespace Go.Proofs.YtblggoneifmoeaaDoor
open Go.RowKit Go.Maps
section
variable {w : World} {d g : Nat} {img log : ByteArray} {F G : List Nat} {S : St} {L : LS}
set_option maxHeartbeats 800000 in
set_option maxRecDepth 100000 in
theorem write_err2 (hD : Disk w d F S) (h : Lg w d g img log G L) (hFG : ∀ x ∈ F, x ∉ G) (hlog : log.size ≤ maxLen) (i : Int) (A : Option Addr) (n c : Nat) (p : List UInt8) (hs : Sl w A n (bvs p)) (ht : Tab w)
    (h1 : L.dead = false) (h2 : (L.last : Int) ≤ i) (h3 : i ≤ 1099511627776) (h4 : p.length ≤ 524288) (he : saveE S img (numd i.toNat p) = 0) (hr : rmE (saveS S img (numd i.toNat p)) log ≠ 0) :
    Calls Tryd.prog 12 #[.pointer (some ⟨g, 0, none⟩), .int .i64 i, .slice A n c] w (Jd d g img log F G (wrS S img log L i p) (wrL S img log L i p) (.int .i64 (wrE S img log L i p : Nat)) w) := by
  obtain ⟨c0, c1, c2, _, _, _, _, hg⟩ := h.cells
  have HY := Lib.hid (ready_any h)
  have HL := Lib.hid (Last_any h)
  have hl : p.length = n := by simpa using hs.len
  have hgF : g ∉ F := fun hm => hFG g hm h.g_mem
  have hti : ((i.toNat : Nat) : Int) = i := by omega
  obtain ⟨q, hq⟩ : ∃ q, q = numd i.toNat p := ⟨_, rfl⟩
  have hql := numd_len (k := i.toNat) (by omega) (by omega : p.length ≤ 1099511627776)
  rw [← hq] at hql he hr
  have HN := Lib.hid (fun (W : World) (o : Only [] w W) => numbered_any i.toNat A n c p W (by omega) (hs.keep o) (by omega))
  rw [← hq, hti] at HN
  have HX := Lib.hid (fun (W : World) (o : Only [] w W) (A1 : Option Addr) (c1 : Nat) (hs : Sl W A1 q.length (bvs q)) => save_any (hD.keep (o.alloc (.cells #[.slice A1 q.length c1] 23))) img (some ⟨W.heap.size, 0, none⟩) 1 1 [q] q (by simp) (Rw.one (Bk.new W _ #[.slice A1 q.length c1]) (hs.alloc _)) (ht.keep (o.alloc _)) (by omega) (by omega))
  have HF := Lib.hid hFG
  have HG := Lib.hid h.g_mem
  have HLt := Lib.hid (fun (x : Nat) (hx : x ∈ G) => h.lt hx)
  have HLg := Lib.hid (fun (W : World) (o : Only F w W) => h.only o (fun x hx hm => hFG x hm hx))
  have h1i : ¬ i < (L.last : Int) := by omega
  have h2i : ¬ 1099511627776 < i := by omega
  have h3i : ¬ 524288 < p.length := by omega
  have hbi : ¬ (i < (L.last : Int) ∨ 1099511627776 < i) := by omega
  have e1 : wrS S img log L i p = rmS (saveS S img q) log := by unfold wrS; rw [h1, if_neg (by simp), if_neg hbi, if_neg h3i, ← hq, if_pos he]
  have e2 : wrE S img log L i p = rmE (saveS S img q) log := by unfold wrE; rw [h1, if_neg (by simp), if_neg hbi, if_neg h3i, ← hq, if_pos he]
  have e3 : wrL S img log L i p = { L with dead := true } := by unfold wrL; rw [h1, if_neg (by simp), if_neg hbi, if_neg h3i, ← hq, if_neg (fun hx => hr hx.2)]
  rw [e1, e2, e3]
  rw [h1] at HY
  rw [he] at HX
  have hne := nat_ne _ hr
  generalize saveS S img q = S1 at *
  have HR := Lib.hid (fun (W : World) (F : List Nat) (hD : Disk W d F S1) (h : W.cell? ⟨g, 0, none⟩ = some (.pointer (some ⟨d, 0, none⟩))) => lremove_any hD h log hlog)
  generalize rmS S1 log = S2 at *
  generalize hrr : ((rmE S1 log : Nat) : Int) = r at *
  generalize hkk : L.last = k at *
  clear e1 e2 e3 h1 hD h hFG ht hs hq hkk he hrr hti hbi hr
  go_enter Tryd.func12, Tryd.ntmps12
  go_wp2_with (first
    | (go_at_call 25; refine HY.out.mono ?_; clear HY; rintro e w1 ⟨rfl, rfl⟩)
    | (go_at_call 13; refine HL.out.mono ?_; clear HL; rintro e w1 ⟨rfl, O1⟩; have k0 := O1.cellSome c0 (fun hm => nomatch hm); have k1 := O1.cellSome c1 (fun hm => nomatch hm)))
  go_region_held3 (fun w' => w'.cell? ⟨g, 0, none⟩ = some (.pointer (some ⟨d, 0, none⟩)) ∧ w'.cell? ⟨g, 1, none⟩ = some (.string img)) (first | go_keep | exact ⟨i0, i1⟩ | exact ⟨j0, j1⟩)
    (first
      | (go_at_call 30; refine (HX.out w2 (O1.drew.then O2) A1 c1' V1.sl).mono ?_; clear HX; rintro e w3 ⟨rfl, hD3⟩; obtain ⟨F3, D3, O3, B3⟩ := chained (F := F) (((O1.drew.then O2).alloc _).mono (fun _ h => nomatch h)) (fun _ h => .inl h) hD3; have i0 := O3.cellSome c0 hgF; have i1 := O3.cellSome c1 hgF)
      | (go_at_call 27; refine (HN.out _ O1.drew).mono ?_; clear HN; rintro e w2 ⟨A1, c1', rfl, V1, O2, B2⟩; have j0 := (O1.drew.then O2).cellSome c0 (fun hm => nomatch hm); have j1 := (O1.drew.then O2).cellSome c1 (fun hm => nomatch hm)))
  all_goals
    have i2 := O3.cellSome c2 hgF
    go_wp2_with (first
      | (go_at_call 28; refine (die_any (HLg.out w4 O4) _).mono ?_; rintro e w5 ⟨rfl, L5, O5⟩)
      | (go_at_call 22; refine (HR.out w3 F3 D3 i0).mono ?_; clear HR; rintro e w4 ⟨rfl, hD4⟩; obtain ⟨F4, D4, O4, B4⟩ := chained O3 B3 hD4))
    go_ret
    exact jd_dead HG.out HF.out HLt.out D4 O4 B4 L5 O5
end
end Go.Proofs.YtblggoneifmoeaaDoor
/-
  ledger's Write: an image written.
-/
namespace Go.Proofs.YtblggoneifmoeaaDoor
open Go.RowKit Go.Maps
section
variable {w : World} {d g : Nat} {img log : ByteArray} {F G : List Nat} {S : St} {L : LS}
set_option maxHeartbeats 800000 in
set_option maxRecDepth 100000 in
theorem write_ok (hD : Disk w d F S) (h : Lg w d g img log G L) (hFG : ∀ x ∈ F, x ∉ G) (hlog : log.size ≤ maxLen) (i : Int) (A : Option Addr) (n c : Nat) (p : List UInt8) (hs : Sl w A n (bvs p)) (hp : 0 < n → ∀ ad, A = some ad → ad.block ∉ F) (ht : Tab w)
    (h1 : L.dead = false) (h2 : (L.last : Int) ≤ i) (h3 : i ≤ 1099511627776) (h4 : p.length ≤ 524288) (he : saveE S img (numd i.toNat p) = 0) (hr : rmE (saveS S img (numd i.toNat p)) log = 0) :
    Calls Tryd.prog 12 #[.pointer (some ⟨g, 0, none⟩), .int .i64 i, .slice A n c] w (Jd d g img log F G (wrS S img log L i p) (wrL S img log L i p) (.int .i64 (wrE S img log L i p : Nat)) w) := by
  obtain ⟨c0, c1, c2, _, _, _, _, hg⟩ := h.cells
  have HY := Lib.hid (ready_any h)
  have HL := Lib.hid (Last_any h)
  have hl : p.length = n := by simpa using hs.len
  have hgF : g ∉ F := fun hm => hFG g hm h.g_mem
  have hti : ((i.toNat : Nat) : Int) = i := by omega
  obtain ⟨q, hq⟩ : ∃ q, q = numd i.toNat p := ⟨_, rfl⟩
  have hql := numd_len (k := i.toNat) (by omega) (by omega : p.length ≤ 1099511627776)
  rw [← hq] at hql he hr
  have HN := Lib.hid (fun (W : World) (o : Only [] w W) => numbered_any i.toNat A n c p W (by omega) (hs.keep o) (by omega))
  rw [← hq, hti] at HN
  have HX := Lib.hid (fun (W : World) (o : Only [] w W) (A1 : Option Addr) (c1 : Nat) (hs : Sl W A1 q.length (bvs q)) => save_any (hD.keep (o.alloc (.cells #[.slice A1 q.length c1] 23))) img (some ⟨W.heap.size, 0, none⟩) 1 1 [q] q (by simp) (Rw.one (Bk.new W _ #[.slice A1 q.length c1]) (hs.alloc _)) (ht.keep (o.alloc _)) (by omega) (by omega))
  have HF := Lib.hid hFG
  have HG := Lib.hid h.g_mem
  have HLt := Lib.hid (fun (x : Nat) (hx : x ∈ G) => h.lt hx)
  have HLg := Lib.hid (fun (W : World) (o : Only F w W) => h.only o (fun x hx hm => hFG x hm hx))
  have h1i : ¬ i < (L.last : Int) := by omega
  have h2i : ¬ 1099511627776 < i := by omega
  have h3i : ¬ 524288 < p.length := by omega
  have hbi : ¬ (i < (L.last : Int) ∨ 1099511627776 < i) := by omega
  have e1 : wrS S img log L i p = rmS (saveS S img q) log := by unfold wrS; rw [h1, if_neg (by simp), if_neg hbi, if_neg h3i, ← hq, if_pos he]
  have e2 : wrE S img log L i p = 0 := by unfold wrE; rw [h1, if_neg (by simp), if_neg hbi, if_neg h3i, ← hq, if_pos he]; exact hr
  have e3 : wrL S img log L i p = ⟨i.toNat, p, [], false⟩ := by unfold wrL; rw [h1, if_neg (by simp), if_neg hbi, if_neg h3i, ← hq, if_pos ⟨he, hr⟩]
  rw [e1, e2, e3]
  rw [h1] at HY
  have H1 := Lib.hid h1
  rw [he] at HX
  have HCL := Lib.hid (fun (W : World) (o : Only F w W) => clone_any A n c p W (hs.only' o hp) (by omega))
  have HT := Lib.hid hti
  have HPL := Lib.hid (show i.toNat ≤ 1099511627776 ∧ p.length ≤ 1073741824 by omega)
  have HLL := Lib.hid hl
  generalize saveS S img q = S1 at *
  have HR := Lib.hid (fun (W : World) (F : List Nat) (hD : Disk W d F S1) (h : W.cell? ⟨g, 0, none⟩ = some (.pointer (some ⟨d, 0, none⟩))) => lremove_any hD h log hlog)
  rw [hr] at HR
  generalize rmS S1 log = S2 at *
  generalize hkk : L.last = k at *
  clear e1 e2 e3 h1 hD h hFG ht hs hq hkk he hti hbi hr hp
  go_enter Tryd.func12, Tryd.ntmps12
  go_wp2_with (first
    | (go_at_call 25; refine HY.out.mono ?_; clear HY; rintro e w1 ⟨rfl, rfl⟩)
    | (go_at_call 13; refine HL.out.mono ?_; clear HL; rintro e w1 ⟨rfl, O1⟩; have k0 := O1.cellSome c0 (fun hm => nomatch hm); have k1 := O1.cellSome c1 (fun hm => nomatch hm)))
  go_region_held3 (fun w' => w'.cell? ⟨g, 0, none⟩ = some (.pointer (some ⟨d, 0, none⟩)) ∧ w'.cell? ⟨g, 1, none⟩ = some (.string img)) (first | go_keep | exact ⟨i0, i1⟩ | exact ⟨j0, j1⟩)
    (first
      | (go_at_call 30; refine (HX.out w2 (O1.drew.then O2) A1 c1' V1.sl).mono ?_; clear HX; rintro e w3 ⟨rfl, hD3⟩; obtain ⟨F3, D3, O3, B3⟩ := chained (F := F) (((O1.drew.then O2).alloc _).mono (fun _ h => nomatch h)) (fun _ h => .inl h) hD3; have i0 := O3.cellSome c0 hgF; have i1 := O3.cellSome c1 hgF)
      | (go_at_call 27; refine (HN.out _ O1.drew).mono ?_; clear HN; rintro e w2 ⟨A1, c1', rfl, V1, O2, B2⟩; have j0 := (O1.drew.then O2).cellSome c0 (fun hm => nomatch hm); have j1 := (O1.drew.then O2).cellSome c1 (fun hm => nomatch hm)))
  all_goals
    have i2 := O3.cellSome c2 hgF
    go_wp2_with (first
      | (go_at_call 22; refine (HR.out w3 F3 D3 i0).mono ?_; clear HR; rintro e w4 ⟨rfl, hD4⟩; obtain ⟨F4, D4, O4, B4⟩ := chained O3 B3 hD4; obtain ⟨Ad, cd, Ae, ce, g1, g2, g3, g7, g8, g9, g10⟩ := HLg.out w4 O4)
      | (go_at_call 29; refine (HCL.out w4 O4).mono ?_; rintro e w5 ⟨A5, c5, rfl, V5, O5, B5⟩; rw [HLL.out] at V5; have HB5 := g1.only O5 (fun hm => nomatch hm); have x3 : w5.cell? ⟨g, 3, none⟩ = some (.int .i64 (L.base : Int)) := (by rw [HB5.cell]; rfl); have x4 : w5.cell? ⟨g, 4, none⟩ = some (.slice Ad L.data.length cd) := (by rw [HB5.cell]; rfl); have x5 : w5.cell? ⟨g, 5, none⟩ = some (.slice Ae L.es.length ce) := (by rw [HB5.cell]; rfl); have f3 := HB5.free 3; have f4 := HB5.free 4; have f5 := HB5.free 5))
    go_ret
    have HB6 := ((HB5.set 3 (.int .i64 i)).set 4 (.slice A5 n c5)).set 5 (.slice none 0 0)
    have hoff := own_off V5 HB5 (by decide)
    have h45 := O5.size
    have h24 := O4.size
    have hdis : ∀ x ∈ F4, x ∉ G := fun x hx hm => by
      rcases B4 x hx with hy | hy
      · exact HF.out x hy hm
      · have := HLt.out x hm; omega
    have O6 : Only [g] w4 (((w5.setCell ⟨g, 3, none⟩ (.int .i64 i)).setCell ⟨g, 4, none⟩ (.slice A5 n c5)).setCell ⟨g, 5, none⟩ (.slice none 0 0)) := (((O5.mono (ss := [g]) (fun _ h => nomatch h)).setCell (.inl (by simp)) _).setCell (.inl (by simp)) _).setCell (.inl (by simp)) _
    refine ⟨rfl, F4, G ++ blks A5, D4.only O6 (fun x hx hm => by simp at hm; subst hm; exact hdis x hx HG.out), ?_, ?_, (O4.mono (ss := F ++ G) (fun x hx => .inl (by simp [hx]))).trans O6 (fun x hx => .inl (by simp at hx; subst hx; simp [HG.out])), B4, ?_⟩
    · refine ⟨A5, c5, none, 0, ?_, ?_, ?_, by simp [HG.out], fun x hx => by simp [hx], fun x hx => ?_, HPL.out.1, HPL.out.2, by simp, by simp⟩
      · show Bk _ g 55 #[.pointer (some ⟨d, 0, none⟩), .string img, .string log, .int .i64 ((i.toNat : Nat) : Int), .slice A5 p.length c5, .slice none 0 0, .bool false]
        rw [HT.out, HLL.out]
        rw [H1.out] at HB6
        simpa using HB6
      · show Own _ 5 A5 p.length c5 (bvs p)
        rw [HLL.out]
        exact ((V5.setFar hoff _).setFar hoff _).setFar hoff _
      · exact Es.nil _ _
      · have hs6 : (((w5.setCell ⟨g, 3, none⟩ (.int .i64 i)).setCell ⟨g, 4, none⟩ (.slice A5 n c5)).setCell ⟨g, 5, none⟩ (.slice none 0 0)).heap.size = w5.heap.size := by simp [World.setCell]
        rw [hs6]
        rcases List.mem_append.1 hx with hy | hy
        · have := g9 x hy; omega
        · exact V5.lt hy
    · intro x hx hm
      rcases List.mem_append.1 hm with hy | hy
      · exact hdis x hx hy
      · have := B5 x hy; have := D4.lt hx; omega
    · intro x hx
      rcases List.mem_append.1 hx with hy | hy
      · exact .inl hy
      · exact .inr (by have := B5 x hy; omega)
/-- Write. -/
theorem lwrite_any (hD : Disk w d F S) (h : Lg w d g img log G L) (hFG : ∀ x ∈ F, x ∉ G) (hlog : log.size ≤ maxLen) (i : Int) (hi : -9223372036854775808 ≤ i ∧ i ≤ 9223372036854775807) (A : Option Addr) (n c : Nat) (p : List UInt8) (hs : Sl w A n (bvs p)) (hp : 0 < n → ∀ ad, A = some ad → ad.block ∉ F) (ht : Tab w) :
    Calls Tryd.prog 12 #[.pointer (some ⟨g, 0, none⟩), .int .i64 i, .slice A n c] w (Jd d g img log F G (wrS S img log L i p) (wrL S img log L i p) (.int .i64 (wrE S img log L i p : Nat)) w) := by
  have hl : p.length = n := by simpa using hs.len
  by_cases hb : L.dead = true ∨ i < (L.last : Int) ∨ 1099511627776 < i ∨ 524288 < p.length
  · exact write_bad hD h hFG i hi A n c p hl hb
  · have h1 : L.dead = false := by
      cases hd : L.dead
      · rfl
      · exact absurd (.inl hd) hb
    have h2 : (L.last : Int) ≤ i := Int.not_lt.1 (fun hx => hb (.inr (.inl hx)))
    have h3 : i ≤ 1099511627776 := Int.not_lt.1 (fun hx => hb (.inr (.inr (.inl hx))))
    have h4 : p.length ≤ 524288 := by
      rcases Nat.lt_or_ge 524288 p.length with hx | hx
      · exact absurd (.inr (.inr (.inr hx))) hb
      · exact hx
    by_cases he : saveE S img (numd i.toNat p) = 0
    · by_cases hr : rmE (saveS S img (numd i.toNat p)) log = 0
      · exact write_ok hD h hFG hlog i A n c p hs hp ht h1 h2 h3 h4 he hr
      · exact write_err2 hD h hFG hlog i A n c p hs ht h1 h2 h3 h4 he hr
    · exact write_err1 hD h hFG i A n c p hs ht h1 h2 h3 h4 he
end
end Go.Proofs.YtblggoneifmoeaaDoor
/-
  ledger's Drop, Base, At; the nil Ledger.
-/
namespace Go.Proofs.YtblggoneifmoeaaDoor
open Go.RowKit Go.Maps
section
variable {w : World} {d g : Nat} {img log : ByteArray} {F G : List Nat} {S : St} {L : LS}
/-- What a Drop leaves of it. -/
def drL (L : LS) : LS := { L with dead := true }
theorem drL_dead (h : L.dead = true) : drL L = L := by
  unfold drL
  cases L
  simp at h
  subst h
  rfl
set_option maxRecDepth 100000 in
theorem ldrop_any (hD : Disk w d F S) (h : Lg w d g img log G L) (hFG : ∀ x ∈ F, x ∉ G) (hlog : log.size ≤ maxLen) (himg : img.size ≤ maxLen) :
    Calls Tryd.prog 18 #[.pointer (some ⟨g, 0, none⟩)] w (Jd d g img log F G (drS S img log L) (drL L) (.int .i64 (drE S img log L : Nat)) w) := by
  obtain ⟨c0, c1, c2, _, _, _, c6, hg⟩ := h.cells
  have HY := Lib.hid (ready_any h)
  have hgF : g ∉ F := fun hm => hFG g hm h.g_mem
  cases hd : L.dead
  · rw [hd] at HY
    have f6 := h.free 6
    have HW := Lib.hid h.die
    have o6 : Only [g] w (w.setCell ⟨g, 6, none⟩ (.bool true)) := (Only.refl _ _).setCell (.inl (by simp)) _
    have b0 : (w.setCell ⟨g, 6, none⟩ (.bool true)).cell? ⟨g, 0, none⟩ = some (.pointer (some ⟨d, 0, none⟩)) := (HW.out.cells).1
    have b1 : (w.setCell ⟨g, 6, none⟩ (.bool true)).cell? ⟨g, 1, none⟩ = some (.string img) := (HW.out.cells).2.1
    have D1 : Disk (w.setCell ⟨g, 6, none⟩ (.bool true)) d F S := hD.only o6 (fun x hx hm => by simp at hm; subst hm; exact hgF hx)
    have HR := Lib.hid (lremove_any D1 b0 log hlog)
    have HF := Lib.hid hFG
    have HG := Lib.hid h.g_mem
    have HLt := Lib.hid (fun (x : Nat) (hx : x ∈ G) => h.lt hx)
    have HJ := Lib.hid (fun (S2 : St) (F2 : List Nat) (w2 : World) (v : Value) (D2 : Disk w2 d F2 S2) (O2 : Only F (w.setCell ⟨g, 6, none⟩ (.bool true)) w2) (B2 : ∀ x ∈ F2, x ∈ F ∨ (w.setCell ⟨g, 6, none⟩ (.bool true)).heap.size ≤ x) =>
      (show Jd d g img log F G S2 (drL L) v w (.returned v) w2 from by
        have hs6 : (w.setCell ⟨g, 6, none⟩ (.bool true)).heap.size = w.heap.size := by simp [World.setCell]
        rw [hs6] at B2
        refine ⟨rfl, F2, G, D2, HW.out.only O2 (fun x hx hm => HF.out x hm hx), fun x hx hm => ?_, (o6.mono (ss := F ++ G) (fun x hx => .inl (by simp at hx; subst hx; simp [HG.out]))).trans O2 (fun x hx => .inl (by simp [hx])), B2, fun x hx => .inl hx⟩
        rcases B2 x hx with hy | hy
        · exact HF.out x hy hm
        · have := HLt.out x hm; omega))
    by_cases hr : rmE S log = 0
    · have e1 : drS S img log L = rmS (rmS S log) img := by unfold drS; rw [hd, if_neg (by simp), if_pos hr]
      have e2 : drE S img log L = rmE (rmS S log) img := by unfold drE; rw [hd, if_neg (by simp), if_pos hr]
      rw [e1, e2]
      rw [hr] at HR
      generalize rmS S log = S1 at *
      have HX := Lib.hid (fun (W : World) (F : List Nat) (hD : Disk W d F S1) (h : W.cell? ⟨g, 0, none⟩ = some (.pointer (some ⟨d, 0, none⟩))) => lremove_any hD h img himg)
      generalize rmE S1 img = r at *
      generalize rmS S1 img = S2 at *
      rw [hd] at c6
      clear e1 e2 hr hd h hD hFG D1
      go_enter Tryd.func18, Tryd.ntmps18
      go_wp2_with (first
        | (go_at_call 25; refine HY.out.mono ?_; clear HY; rintro e w1 ⟨rfl, rfl⟩)
        | (go_at_call 22; refine HR.out.mono ?_; clear HR; rintro e w2 ⟨rfl, F2, D2, O2, B2⟩; have k0 := O2.cellSome b0 hgF; have k1 := O2.cellSome b1 hgF)
        | (go_at_call 22; refine (HX.out w2 F2 D2 k0).mono ?_; clear HX; rintro e w3 ⟨rfl, hD3⟩; obtain ⟨F3, D3, O3, B3⟩ := chained O2 B2 hD3))
      go_ret
      exact HJ.out _ _ _ _ D3 O3 B3
    · have e1 : drS S img log L = rmS S log := by unfold drS; rw [hd, if_neg (by simp), if_neg hr]
      have e2 : drE S img log L = rmE S log := by unfold drE; rw [hd, if_neg (by simp), if_neg hr]
      rw [e1, e2]
      have hne := nat_ne _ hr
      generalize rmS S log = S1 at *
      generalize hrr : ((rmE S log : Nat) : Int) = r at *
      rw [hd] at c6
      clear e1 e2 hr hd h hD hFG D1 hrr
      go_enter Tryd.func18, Tryd.ntmps18
      go_wp2_with (first
        | (go_at_call 25; refine HY.out.mono ?_; clear HY; rintro e w1 ⟨rfl, rfl⟩)
        | (go_at_call 22; refine HR.out.mono ?_; clear HR; rintro e w2 ⟨rfl, F2, D2, O2, B2⟩))
      go_ret
      exact HJ.out _ _ _ _ D2 O2 B2
  · rw [hd] at HY
    have e1 : drS S img log L = S := by unfold drS; rw [hd, if_pos rfl]
    have e2 : drE S img log L = 9 := by unfold drE; rw [hd, if_pos rfl]
    rw [e1, e2, drL_dead hd]
    have HJ := Lib.hid (fun (v : Value) (e : Ending) (w' : World) (he : e = .returned v) (o : Only [] w w') => jd_same hD h hFG he o)
    clear e1 e2 hd hD h hFG
    go_enter Tryd.func18, Tryd.ntmps18
    go_wp2_with (go_at_call 25; refine HY.out.mono ?_; clear HY; rintro e w1 ⟨rfl, rfl⟩)
    go_ret
    exact HJ.out _ _ _ rfl (Only.refl _ _)
set_option maxRecDepth 100000 in
/-- Base: the image, in new memory. -/
theorem base_any (h : Lg w d g img log G L) :
    Calls Tryd.prog 15 #[.pointer (some ⟨g, 0, none⟩)] w fun e w' => ∃ A c, e = .returned (.tuple #[.int .i64 (L.base : Int), .slice A L.data.length c]) ∧ Own w' 5 A L.data.length c (bvs L.data) ∧ Only [] w w' ∧ ∀ k ∈ blks A, w.heap.size ≤ k := by
  obtain ⟨_, _, _, c3, ⟨Ad, cd, c4, o4⟩, _, _, hg⟩ := h.cells
  obtain ⟨b1, b2, b3⟩ := h.bounds
  have HCL := Lib.hid (fun (W : World) (o : Only [] w W) => clone_any Ad L.data.length cd L.data W (o4.sl.keep o) (by omega))
  clear h o4 b1 b2 b3
  go_enter Tryd.func15, Tryd.ntmps15
  go_wp2
  go_region_held3 (fun w' => w'.cell? ⟨g, 3, none⟩ = some (.int .i64 (L.base : Int)) ∧ w'.cell? ⟨g, 4, none⟩ = some (.slice Ad L.data.length cd)) (first | go_keep | exact ⟨k3, k4⟩)
    ((go_at_call 29; refine (HCL.out _ (Only.refl _ _).drew).mono ?_; rintro e w1 ⟨A1, c1, rfl, V1, O1, B1⟩; have O1' := ((Only.refl [] w).drew).then O1; have k3 := O1'.cellSome c3 (fun hm => nomatch hm); have k4 := O1'.cellSome c4 (fun hm => nomatch hm)))
  go_wp2
  go_ret2
  exact ⟨A1, c1, rfl, V1, O1', B1⟩
theorem base_nil (w : World) : Calls Tryd.prog 15 #[.pointer none] w fun e w' => e = .returned (.tuple #[.int .i64 0, .slice none 0 0]) ∧ w = w' := by
  go_enter Tryd.func15, Tryd.ntmps15
  go_wp2
  go_ret2
  exact ⟨rfl, rfl⟩
theorem at_nil (w : World) (i : Int) : Calls Tryd.prog 16 #[.pointer none, .int .i64 i] w fun e w' => e = .returned (.tuple #[.slice none 0 0, .int .i64 7]) ∧ w = w' := by
  go_enter Tryd.func16, Tryd.ntmps16
  go_wp2
  go_ret2
  exact ⟨rfl, rfl⟩
theorem lappend_nil (w : World) (x : Value) : Calls Tryd.prog 11 #[.pointer none, x] w fun e w' => e = .returned (.tuple #[.int .i64 0, .int .i64 1]) ∧ w = w' := by
  go_enter Tryd.func11, Tryd.ntmps11
  go_wp2_with (go_at_call 25; refine (ready_nil w).mono ?_; rintro e w1 ⟨rfl, rfl⟩)
  go_ret2
  exact ⟨rfl, rfl⟩
theorem lwrite_nil (w : World) (x y : Value) : Calls Tryd.prog 12 #[.pointer none, x, y] w fun e w' => e = .returned (.int .i64 1) ∧ w = w' := by
  go_enter Tryd.func12, Tryd.ntmps12
  go_wp2_with (go_at_call 25; refine (ready_nil w).mono ?_; rintro e w1 ⟨rfl, rfl⟩)
  go_ret
  exact ⟨rfl, rfl⟩
theorem ldrop_nil (w : World) : Calls Tryd.prog 18 #[.pointer none] w fun e w' => e = .returned (.int .i64 1) ∧ w = w' := by
  go_enter Tryd.func18, Tryd.ntmps18
  go_wp2_with (go_at_call 25; refine (ready_nil w).mono ?_; rintro e w1 ⟨rfl, rfl⟩)
  go_ret
  exact ⟨rfl, rfl⟩
end
end Go.Proofs.YtblggoneifmoeaaDoor
