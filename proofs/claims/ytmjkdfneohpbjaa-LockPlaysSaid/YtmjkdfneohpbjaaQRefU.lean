/-
  The document's Touch and Due.
-/
import Derived.Test.YtmjkdfneohpbjaaQRefD
import Derived.Test.YtmjkdfneohpbjaaQDueW
namespace Go.Proofs.Ytmjkdfneohpbjaa
open Go.RowKit

theorem cut_due {A : Option Addr} {n c k : Nat} (hk : k ≤ n) (hnc : n ≤ c) (hnil : A = none → c = 0) : ∃ A2 c2, (∀ W, (Instr.slice 28 (.slice A n c) (some (.int .i64 (k : Int))) none none).run Try.prog W = .ok (.slice A2 (n - k) c2) W) ∧ A2 = (if c = k then A else A.map (·.add (k * 2))) := by
  refine ⟨_, c - k, fun W => ?_, rfl⟩
  have h1 : (k : Int) ≤ (n : Int) := by omega
  by_cases hcH : c = k
  · subst hcH
    go_simp
  · cases A with
    | none => have := hnil rfl; omega
    | some ad => go_simp
theorem pre_due {A : Option Addr} {n c k : Nat} (hk : k ≤ n) (hnc : n ≤ c) : ∀ W, (Instr.slice 28 (.slice A n c) none (some (.int .i64 (k : Int))) none).run Try.prog W = .ok (.slice A k c) W := fun W => by
  have h1 : (k : Int) ≤ (c : Int) := by omega
  go_simp
/-- Laid in among rising conns: behind those that are less. -/
theorem ins_at {x : Du} : ∀ {l : List Du} {k : Nat}, (∀ p ∈ l, p.1 ≠ x.1) → k ≤ l.length → (∀ j (hj : j < l.length), j < k → (l[j]).1 < x.1) → (∀ hk : k < l.length, ¬ (l[k]).1 < x.1) → insI x l = l.take k ++ x :: l.drop k
  | [], k, _, _, _, _ => by simp [insI]
  | g :: r, 0, hne, _, _, h0 => by
    have h := h0 (by simp)
    have hg := hne g (by simp)
    unfold insI
    rw [if_pos (by simp at h; omega)]
    rfl
  | g :: r, k + 1, hne, hk, hlt, h0 => by
    have h := hlt 0 (by simp) (by omega)
    simp at h
    unfold insI
    rw [if_neg (by omega), ins_at (fun p hp => hne p (by simp [hp])) (by simpa using hk) (fun j hj hjk => by
      have := hlt (j + 1) (by simpa using hj) (by omega)
      simpa using this) (fun hk2 => by
      have := h0 (by simpa using hk2)
      simpa using this)]
    rfl
theorem del_ne (ds : List Du) (c : Int) : ∀ p ∈ delI ds c, p.1 ≠ c := by
  intro p hp
  unfold delI at hp
  simpa using (List.mem_filter.1 hp).2
section
variable {w w' : World} {g n c m d : Nat} {A B : Option Addr} {l : List Hd} {ds : List Du} {rs F : List Nat}
theorem rfd_then {w1 : World} {F1 : List Nat} {v : Value} {e : Ending} (o : Only F w w1) (p : ∀ k ∈ F1, k ∈ F ∨ w.heap.size ≤ k) (h : Rfd w1 g F1 v l ds e w') : Rfd w g F v l ds e w' := by
  obtain ⟨he, F', L, O, B⟩ := h
  refine ⟨he, F', L, o.trans O p, fun k hk => ?_⟩
  rcases B k hk with h1 | h1
  · exact p k h1
  · exact .inr (Nat.le_trans o.size h1)
theorem Po.none_cap {T : TypeId} {t : List Tw} (h : Po w T A n c t) (e : A = none) : c = 0 := by
  subst e
  rcases h.2.2 with ⟨hv, h0⟩ | ⟨g, cap, cur, hv, _⟩
  · simp only [Value.slice.injEq] at hv; omega
  · simp only [Value.slice.injEq] at hv; cases hv.1
set_option maxRecDepth 100000 in
set_option maxHeartbeats 8000000 in
theorem refTouch_any (h : Rk w g A n c B m d l ds) (cn now lim : Int) (hn : 0 ≤ now ∧ now ≤ 1099511627776) (hl : 0 ≤ lim ∧ lim ≤ 1099511627776) (hds : ds.length ≤ 1000) :
    Calls Try.prog 14 #[.pointer (some ⟨g, 0, none⟩), .int .i64 cn, .int .i64 now, .int .i64 lim] w (Rfd w g (g :: (blks A ++ blks B)) (.tuple #[]) l (putI (cn, now + lim) ds)) := by
  have HF := Lib.hid (refForget_any h cn hds)
  have HNE := Lib.hid (del_ne ds cn)
  have HPU : Hid (putI (cn, now + lim) ds = insI (cn, now + lim) (delI ds cn)) := rfl
  have HLE : Hid ((delI ds cn).length ≤ 1000) := Nat.le_trans (length_delI ds cn) hds
  have hw2 : IntKind.i64.wrap (now + lim) = now + lim := IntWalk.i64_in _ (by omega)
  obtain ⟨i0, hi, hz0, hz1, hz2⟩ := info_parts infoDue
  have HFP := Lib.hid h.lt
  rw [HPU.out]
  clear HPU
  clear h hds
  generalize delI ds cn = es at *
  go_enter Try.func14, Try.ntmps14
  go_wp2_with (go_at_call 16; refine HF.out.mono ?_; clear HF; rintro e w1 ⟨rfl, F1, ⟨A1, n1, c1, B1, m1, d1, R1, rfl⟩, O1, P1⟩)
  have hm1 : es.length = m1 := by have := R1.d.1; simpa using this
  have hmb : m1 ≤ 1000 := by have := HLE.out; omega
  have HM := Lib.hid hm1
  have HR := Lib.hid R1
  have HCAP := Lib.hid R1.d.cap
  have HNC := Lib.hid (R1.d.none_cap)
  have HO1 := Lib.hid O1
  have HP1 := Lib.hid P1
  have HG := Lib.hid R1.bk.lt
  obtain ⟨k0, k1⟩ := R1.cells
  have f1 := R1.bk.free 1
  clear hm1 O1 P1
  go_loop [8] (fun i => ∃ k : Nat, k ≤ m1 ∧ i = .int .i64 (k : Int) ∧ Hid (∀ j (hj : j < es.length), j < k → (es[j]).1 < cn)) (fun i => m1 - (intOf i).toNat)
  case atStart => exact ⟨0, Nat.zero_le _, rfl, fun j _ h => absurd h (by omega)⟩
  case round =>
    obtain ⟨k, hk, rfl, HK⟩ := hrel
    have hways : (k < m1 ∧ ∃ (hkl : k < es.length), (es[k]).1 < cn) ∨ ((∀ hk : k < es.length, ¬ (es[k]).1 < cn) ∧ k < m1) ∨ ((∀ hk : k < es.length, ¬ (es[k]).1 < cn) ∧ k = m1) := by
      have := HM.out
      by_cases hlt : k < m1
      · by_cases hc : (es[k]'(by omega)).1 < cn
        · exact .inl ⟨hlt, by omega, hc⟩
        · exact .inr (.inl ⟨fun _ => hc, hlt⟩)
      · exact .inr (.inr ⟨fun hk2 => absurd hk2 (by omega), by omega⟩)
    rcases hways with ⟨hlt, hkl, hc⟩ | ⟨hno, hlt⟩ | ⟨hno, rfl⟩
    · have h1 : (k : Int) < (m1 : Int) := by omega
      have hkv : k < (dvs es).length := by simpa using hkl
      obtain ⟨ad, rfl, e0, e1⟩ := R1.d.reads.at_ hkv
      have ev : (dvs es)[k] = (.int .i64 (es[k]).1, .int .i64 (es[k]).2) := by simp [dvs]
      rw [ev] at e0
      dsimp only at e0
      have HKN : Hid (∀ j (hj : j < es.length), j < k + 1 → (es[j]).1 < cn) := by
        intro j hj hjk
        rcases Nat.lt_succ_iff_lt_or_eq.1 hjk with h | h
        · exact HK.out j hj h
        · subst h; exact hc
      generalize (es[k]).1 = s at e0 hc
      clear ev e1 hkv
      go_wp2
      go_round
      case rel => exact ⟨k + 1, by omega, by go_num, HKN.out⟩
      case measure => simp [intOf]; omega
    · have h1 : (k : Int) < (m1 : Int) := by omega
      have hkl : k < es.length := by have := HM.out; omega
      have hkv : k < (dvs es).length := by simpa using hkl
      obtain ⟨ad, had, e0, e1⟩ := R1.d.reads.at_ hkv
      have ev : (dvs es)[k] = (.int .i64 (es[k]).1, .int .i64 (es[k]).2) := by simp [dvs]
      rw [ev] at e0
      dsimp only at e0
      have hc := hno hkl
      have hkm : k ≤ m1 := hk
      have hgl := HG.out
      have HIN : Hid (insI (cn, now + lim) es = es.take k ++ (cn, now + lim) :: es.drop k) := ins_at HNE.out (by have := HM.out; omega) HK.out hno
      obtain ⟨B2, d2, hcut, hB2⟩ := cut_due (A := B1) hkm HCAP.out HNC.out
      have hpre := pre_due (A := B1) hkm HCAP.out
      have HPS : Hid (Pw w1 B1 k (dvs (es.take k))) := by
        have := R1.d.reads.pre hkm
        have e : (dvs es).take k = dvs (es.take k) := by simp [dvs, List.map_take]
        rwa [e] at this
      have HCS0 : Pw w1 B2 (m1 - k) (dvs (es.drop k)) := by
        have := R1.d.reads.cut hkm HCAP.out
        have e : (dvs es).drop k = dvs (es.drop k) := by simp [dvs, List.map_drop]
        rw [e, ← hB2] at this
        exact this
      obtain ⟨q, hq⟩ : ∃ q, m1 - k = q := ⟨_, rfl⟩
      rw [hq] at HCS0 hcut
      have HCS := Lib.hid HCS0
      have hqb : q ≤ 1000 := by omega
      have hkb : k ≤ 1000 := by omega
      subst had
      generalize (es[k]).1 = s at e0 hc
      clear ev e1 hkv hkl
      clear HCS0 hB2 hq hno R1 hkm
      go_wp2_with (first
        | (at_builtin; refine wpList_append_po rfl (.tmp 34) (.tmp 40) 28 rfl 51 i0 (.agg #[.int .i64 0, .int .i64 0]) 16 Try.underlying28 hi hz0 hz1 hz2 rfl (some ⟨w1.heap.size, 0, none⟩) 0 0 [] rfl (Po.empty w1 51) _ k d1 (dvs (es.take k)) rfl (HPS.out.keep ((Only.refl [] w1).alloc _)) (dvs_one _) (by unfold maxLen; omega) (by omega) k (by omega) ?_; intro A2 c2 w2 HV2 HO2 HB2; have HW2 : Only [] w1 w2 := ((Only.refl [] w1).alloc (.cells #[] 51)).trans HO2 (fun x hx => .inr (by simp at hx; omega)); rw [List.nil_append] at HV2; have HN2 := Lib.hid (fun (x : Nat) (hx : x ∈ blks A2) => (show w1.heap.size ≤ x by
            rcases HB2 x hx with h | h
            · simp at h; omega
            · rw [World.size_alloc] at h; omega)); clear HO2 HB2)
        | (at_builtin; refine wpList_append_po rfl (.tmp 41) (.tmp 47) 28 rfl 51 i0 (.agg #[.int .i64 0, .int .i64 0]) 16 Try.underlying28 hi hz0 hz1 hz2 rfl A2 k c2 (dvs (es.take k)) rfl (HV2.keep ((Only.refl [] w2).alloc _)) (some ⟨w2.heap.size, 0, none⟩) 1 1 [(.int .i64 cn, .int .i64 (now + lim))] rfl (Pw.of_bk (Bk.new w2 51 _)) (dvs_one [(cn, now + lim)]) (by unfold maxLen; omega) (by omega) (k + 1) rfl ?_; intro A3 c3 w3 HV3 HO3 HB3; have HW3 : Only [] w1 w3 := (HW2.alloc (.cells #[.int .i64 cn, .int .i64 (now + lim)] 51)).trans HO3 (fun x hx => .inr (HN2.out x hx)); have hsz2 := HW2.size; have HN3 := Lib.hid (fun (x : Nat) (hx : x ∈ blks A3) => (show w1.heap.size ≤ x by
            rcases HB3 x hx with h | h
            · exact HN2.out x h
            · rw [World.size_alloc] at h; omega)); have j1 := (HR.out.keep HW3).cells.2; clear HV2 HW2 HN2 HO3 HB3 hsz2)
        | (at_builtin; refine wpList_append_po rfl (.tmp 50) (.tmp 56) 28 rfl 51 i0 (.agg #[.int .i64 0, .int .i64 0]) 16 Try.underlying28 hi hz0 hz1 hz2 rfl A3 (k + 1) c3 _ rfl HV3 B2 q d2 (dvs (es.drop k)) rfl (HCS.out.keep HW3) (dvs_one _) (by unfold maxLen; omega) (by omega) (k + 1 + q) rfl ?_; intro A4 c4 w4 HV4 HO4 HB4; have HW4 : Only [] w1 w4 := HW3.trans HO4 (fun x hx => .inr (HN3.out x hx)); have hsz3 := HW3.size; have HN4 := Lib.hid (fun (x : Nat) (hx : x ∈ blks A4) => (show w1.heap.size ≤ x by
            rcases HB4 x hx with h | h
            · exact HN3.out x h
            · omega)); have j2 := (HR.out.keep HW4).cells.2; have f4 := (HR.out.keep HW4).bk.free 1; clear HV3 HW3 HN3 HO4 HB4 hsz3))
      go_end0
      have HV5 : Po w4 51 A4 (k + 1 + q) c4 (dvs (es.take k ++ (cn, now + lim) :: es.drop k)) := by
        have e : dvs (es.take k ++ (cn, now + lim) :: es.drop k) = dvs (es.take k) ++ [(.int .i64 cn, .int .i64 (now + lim))] ++ dvs (es.drop k) := by simp [dvs]
        rw [e]
        exact HV4
      rw [HIN.out]
      exact rfd_then HO1.out HP1.out ((HR.out.keep HW4).doneD HW4 (Only.refl [] w4) (fun _ hx => nomatch hx) HV5 (fun k hk => .inr (HN4.out k hk)) (.tuple #[]))
    · have h1 : ¬ (k : Int) < (k : Int) := by omega
      have hkm : k ≤ k := Nat.le_refl k
      have hgl := HG.out
      have HIN : Hid (insI (cn, now + lim) es = es.take k ++ (cn, now + lim) :: es.drop k) := ins_at HNE.out (by have := HM.out; omega) HK.out hno
      obtain ⟨B2, d2, hcut, hB2⟩ := cut_due (A := B1) hkm HCAP.out HNC.out
      have hpre := pre_due (A := B1) hkm HCAP.out
      have HPS : Hid (Pw w1 B1 k (dvs (es.take k))) := by
        have := R1.d.reads.pre hkm
        have e : (dvs es).take k = dvs (es.take k) := by simp [dvs, List.map_take]
        rwa [e] at this
      have HCS0 : Pw w1 B2 (k - k) (dvs (es.drop k)) := by
        have := R1.d.reads.cut hkm HCAP.out
        have e : (dvs es).drop k = dvs (es.drop k) := by simp [dvs, List.map_drop]
        rw [e, ← hB2] at this
        exact this
      obtain ⟨q, hq⟩ : ∃ q, k - k = q := ⟨_, rfl⟩
      rw [hq] at HCS0 hcut
      have HCS := Lib.hid HCS0
      have hqb : q ≤ 1000 := by omega
      have hkb : k ≤ 1000 := by omega
      clear HCS0 hB2 hq hno R1 hkm
      go_wp2_with (first
        | (at_builtin; refine wpList_append_po rfl (.tmp 34) (.tmp 40) 28 rfl 51 i0 (.agg #[.int .i64 0, .int .i64 0]) 16 Try.underlying28 hi hz0 hz1 hz2 rfl (some ⟨w1.heap.size, 0, none⟩) 0 0 [] rfl (Po.empty w1 51) _ k d1 (dvs (es.take k)) rfl (HPS.out.keep ((Only.refl [] w1).alloc _)) (dvs_one _) (by unfold maxLen; omega) (by omega) k (by omega) ?_; intro A2 c2 w2 HV2 HO2 HB2; have HW2 : Only [] w1 w2 := ((Only.refl [] w1).alloc (.cells #[] 51)).trans HO2 (fun x hx => .inr (by simp at hx; omega)); rw [List.nil_append] at HV2; have HN2 := Lib.hid (fun (x : Nat) (hx : x ∈ blks A2) => (show w1.heap.size ≤ x by
            rcases HB2 x hx with h | h
            · simp at h; omega
            · rw [World.size_alloc] at h; omega)); clear HO2 HB2)
        | (at_builtin; refine wpList_append_po rfl (.tmp 41) (.tmp 47) 28 rfl 51 i0 (.agg #[.int .i64 0, .int .i64 0]) 16 Try.underlying28 hi hz0 hz1 hz2 rfl A2 k c2 (dvs (es.take k)) rfl (HV2.keep ((Only.refl [] w2).alloc _)) (some ⟨w2.heap.size, 0, none⟩) 1 1 [(.int .i64 cn, .int .i64 (now + lim))] rfl (Pw.of_bk (Bk.new w2 51 _)) (dvs_one [(cn, now + lim)]) (by unfold maxLen; omega) (by omega) (k + 1) rfl ?_; intro A3 c3 w3 HV3 HO3 HB3; have HW3 : Only [] w1 w3 := (HW2.alloc (.cells #[.int .i64 cn, .int .i64 (now + lim)] 51)).trans HO3 (fun x hx => .inr (HN2.out x hx)); have hsz2 := HW2.size; have HN3 := Lib.hid (fun (x : Nat) (hx : x ∈ blks A3) => (show w1.heap.size ≤ x by
            rcases HB3 x hx with h | h
            · exact HN2.out x h
            · rw [World.size_alloc] at h; omega)); have j1 := (HR.out.keep HW3).cells.2; clear HV2 HW2 HN2 HO3 HB3 hsz2)
        | (at_builtin; refine wpList_append_po rfl (.tmp 50) (.tmp 56) 28 rfl 51 i0 (.agg #[.int .i64 0, .int .i64 0]) 16 Try.underlying28 hi hz0 hz1 hz2 rfl A3 (k + 1) c3 _ rfl HV3 B2 q d2 (dvs (es.drop k)) rfl (HCS.out.keep HW3) (dvs_one _) (by unfold maxLen; omega) (by omega) (k + 1 + q) rfl ?_; intro A4 c4 w4 HV4 HO4 HB4; have HW4 : Only [] w1 w4 := HW3.trans HO4 (fun x hx => .inr (HN3.out x hx)); have hsz3 := HW3.size; have HN4 := Lib.hid (fun (x : Nat) (hx : x ∈ blks A4) => (show w1.heap.size ≤ x by
            rcases HB4 x hx with h | h
            · exact HN3.out x h
            · omega)); have j2 := (HR.out.keep HW4).cells.2; have f4 := (HR.out.keep HW4).bk.free 1; clear HV3 HW3 HN3 HO4 HB4 hsz3))
      go_end0
      have HV5 : Po w4 51 A4 (k + 1 + q) c4 (dvs (es.take k ++ (cn, now + lim) :: es.drop k)) := by
        have e : dvs (es.take k ++ (cn, now + lim) :: es.drop k) = dvs (es.take k) ++ [(.int .i64 cn, .int .i64 (now + lim))] ++ dvs (es.drop k) := by simp [dvs]
        rw [e]
        exact HV4
      rw [HIN.out]
      exact rfd_then HO1.out HP1.out ((HR.out.keep HW4).doneD HW4 (Only.refl [] w4) (fun _ hx => nomatch hx) HV5 (fun k hk => .inr (HN4.out k hk)) (.tuple #[]))
set_option maxRecDepth 100000 in
set_option maxHeartbeats 4000000 in
theorem refDue_any (h : Rk w g A n c B m d l ds) (now : Int) (hl : ds.length ≤ 1000) :
    Calls Try.prog 18 #[.pointer (some ⟨g, 0, none⟩), .int .i64 now] w (IntsNew w (dueL ds now)) := by
  have hlen : ds.length = m := by have := h.d.1; simpa using this
  have hn : m ≤ 1000 := by omega
  have HN := Lib.hid hlen
  have HR := Lib.hid h
  obtain ⟨i0, hi, hz0, hz1, hz2⟩ := info_parts infoInt
  have hgl := h.bk.lt
  clear h hl hlen
  go_enter Try.func18, Try.ntmps18
  go_wp2
  go_loopw [5, 6] (fun s i wr => ∃ (k q : Nat) (X : Option Addr) (cx : Nat), k ≤ m ∧ i = .int .i64 (k : Int) ∧ s = .slice X q cx ∧ q ≤ k ∧ Hid (Own wr 3 X q cx (ivs (dueL (ds.take k) now))) ∧ Hid (Only [] w wr) ∧ Hid (∀ x ∈ blks X, w.heap.size ≤ x)) (fun _ i _ => m - (intOf i).toNat)
  case atStart => exact ⟨0, 0, none, 0, Nat.zero_le _, rfl, rfl, Nat.le_refl _, Own.nil _ _, Only.refl _ _, fun _ hx => nomatch hx⟩
  case round =>
    obtain ⟨k, q, X, cx, hk, rfl, rfl, hqk, HX, HO, HB⟩ := hrel
    have hRw := HR.out.keep HO.out
    obtain ⟨c0, c1⟩ := hRw.cells
    by_cases hlt : k < m
    · have h1 : (k : Int) < (m : Int) := by omega
      have hkl : k < ds.length := by rw [HN.out]; exact hlt
      have hkv : k < (dvs ds).length := by simpa using hkl
      obtain ⟨ad, rfl, d0, d1⟩ := hRw.d.reads.at_ hkv
      have ev : (dvs ds)[k] = (.int .i64 (ds[k]).1, .int .i64 (ds[k]).2) := by simp [dvs]
      rw [ev] at d0 d1
      dsimp only at d0 d1
      have HS := Lib.hid (due_snoc hkl now)
      generalize (ds[k]).1 = s at d0 HS
      generalize (ds[k]).2 = v at d1 HS
      clear hRw ev hkv
      by_cases hs : v ≤ now
      · have HS2 : Hid (dueL (ds.take (k + 1)) now = dueL (ds.take k) now ++ [s]) := by have := HS.out; show _ = _; simpa [hs] using this
        have hX1 := HX.out
        go_wp2_with (first
          | (at_builtin; refine wpList_append_sl rfl (.tmp 26) (.tmp 35) 36 rfl 3 i0 (.int .i64 0) 8 Try.underlying36 hi hz0 hz1 hz2 rfl X q cx _ rfl (hX1.keep ((Only.refl [] wr).alloc _)) (some ⟨wr.heap.size, 0, none⟩) 1 1 (ivs [s]) rfl (sl_int wr _ s) (ivs_one _) (by unfold maxLen; omega) (by omega) ?_; intro A2 c2 w2 HV2 HO2 HB2)
          | go_in)
        go_roundw
        case rel =>
          refine ⟨k + 1, q + 1, A2, c2, by omega, by go_num, rfl, by omega, ?_, ((HO.out.alloc _).trans HO2 (fun x hx => .inr (HB.out x hx))), ?_⟩
          · rw [HS2.out, ivs_append]; exact HV2
          · intro x hx
            rcases HB2 x hx with h | h
            · exact HB.out x h
            · rw [World.size_alloc] at h
              have := HO.out.size
              omega
        case measure => simp [intOf]; omega
      · have HS2 : Hid (dueL (ds.take (k + 1)) now = dueL (ds.take k) now) := by have := HS.out; show _ = _; simpa [hs] using this
        go_wp2
        go_roundw
        case rel => exact ⟨k + 1, q, X, cx, by omega, by go_num, rfl, by omega, by rw [HS2.out]; exact HX, HO, HB⟩
        case measure => simp [intOf]; omega
    · have h1 : ¬ (k : Int) < (m : Int) := by omega
      have HE : Hid (dueL (ds.take k) now = dueL ds now) := by show _ = _; rw [List.take_of_length_le (by have := HN.out; omega)]
      clear hRw
      go_wp2
      go_ret
      have hX1 := HX.out
      rw [HE.out] at hX1
      have hq : (dueL ds now).length = q := by simpa using hX1.len
      subst hq
      exact ⟨X, cx, rfl, hX1, HO.out, HB.out⟩
end
end Go.Proofs.Ytmjkdfneohpbjaa
