/-
  The walk of the law DiskRoom.
-/
import Derived.Test.YtbciompelpbkdaaDFuses
namespace Go.Proofs.Ytbciompelpbkdaa
open Go.RowKit Go.Maps

theorem take_w {b : Bool} {A B : Prop} (hb : b = true) (h : A) : if b = true then A else B := by rw [if_pos hb]; exact h
theorem skip_w {b : Bool} {A B : Prop} (hb : b = false) (h : B) : if b = true then A else B := by rw [hb]; exact h
theorem oc_of {w W : World} {p : Addr} {v : Value} (h : Only [] w W) (k : w.cell? p = some v) : Only [] w W ∧ W.cell? p = some v := ⟨h, h.cellSome k (by simp)⟩
theorem oc_drew {w : World} {p : Addr} {v : Value} (k : w.cell? p = some v) : Only [] w w.drew ∧ w.drew.cell? p = some v := oc_of (Only.refl [] w).drew k
theorem oc_alloc {w W : World} {p : Addr} {v : Value} (h : Only [] w W ∧ W.cell? p = some v) (o : Obj) : Only [] w (W.alloc o) ∧ (W.alloc o).cell? p = some v := ⟨h.1.alloc o, ((Only.refl [] W).alloc o).cellSome h.2 (by simp)⟩
set_option maxRecDepth 100000 in
set_option maxHeartbeats 4000000 in
theorem room_any (room : Int) (A : Option Addr) (n c : Nat) (ls : List (List UInt8)) (w : World) (hr : Rw w A n ls) (hn : n ≤ 10000000000000) (hj : ∀ l ∈ ls, l.length ≤ 140737488351232) :
    Calls Try.prog 7 #[.int .i64 room, .slice A n c] w fun e w' => e = .returned (.bool true) ∧ Only [] w w' := by
  obtain ⟨i0, hi, hz0, hz1, hz2⟩ := info_parts infoByte
  have HLs : Hid (ls.length = n) := hr.len
  have hrows := Lib.hid hj
  clear hj
  go_enter Try.func7, Try.ntmps7
  go_wp2_with fail
  go_loop [5, 6] (fun s i => ∃ k N : Nat, k ≤ n ∧ i = .int .i64 k ∧ s = .int .i64 N ∧ Hid (N = cnt ls k) ∧ N ≤ 140737488400000) (fun _ i => n - (intOf i).toNat)
  case atStart => exact ⟨0, 0, Nat.zero_le _, rfl, rfl, rfl, Nat.zero_le _⟩
  case round =>
    obtain ⟨k, N, hk, rfl, rfl, HN, hNb⟩ := hrel
    by_cases hlt : k < n
    · by_cases hc : N ≤ 8000
      · obtain ⟨ad, Ai, ci, rfl, hcell, _⟩ := hr.at_ hlt (by rw [HLs.out]; exact hlt)
        obtain ⟨m, hm⟩ : ∃ m, m = (ls[k]'(by rw [HLs.out]; exact hlt)).length := ⟨_, rfl⟩
        have hmb : m ≤ 140737488351232 := by rw [hm]; exact hrows.out _ (List.getElem_mem _)
        have HN' : Hid (N + 1 + m = cnt ls (k + 1)) := by show _ = _; rw [cnt_succ ls k (by rw [HLs.out]; exact hlt), ← HN.out, hm]
        rw [← hm] at hcell
        clear hm
        go_wp2
        go_round
        case rel => exact ⟨k + 1, N + 1 + m, by omega, by go_num, by go_num, HN', by omega⟩
        case measure => simp [intOf]; omega
      · have hc' : 8000 < N := by omega
        go_wp2_with (go_at_call 11; refine (known_any w).mono ?_; rintro e w1 ⟨rfl, O1⟩)
        go_ret
        exact ⟨rfl, O1⟩
    · have hkn : k = n := by omega
      subst hkn
      have HT : Hid (N = k + ls.flatten.length) := by show _ = _; rw [HN.out, ← HLs.out]; exact cnt_all ls
      by_cases hc : 8000 < N
      · have hc' := hc
        go_wp2_with (go_at_call 11; refine (known_any w).mono ?_; rintro e w1 ⟨rfl, O1⟩)
        go_ret
        exact ⟨rfl, O1⟩
      · have hc' : N ≤ 8000 := by omega
        have hk8 : k ≤ 8000 := by have := HT.out; omega
        have HFl : Hid (ls.flatten.length ≤ 8000) := by show _ ≤ _; have := HT.out; omega
        by_cases hneg : room < 0
        · go_wp2_with (go_at_call 11; refine (known_any w).mono ?_; rintro e w1 ⟨rfl, O1⟩)
          go_ret
          exact ⟨rfl, O1⟩
        by_cases hbig : 5000 < room
        · go_wp2_with (go_at_call 11; refine (known_any w).mono ?_; rintro e w1 ⟨rfl, O1⟩)
          go_ret
          exact ⟨rfl, O1⟩
        by_cases hk60 : 60 < k
        · go_wp2_with (go_at_call 11; refine (known_any w).mono ?_; rintro e w1 ⟨rfl, O1⟩)
          go_ret
          exact ⟨rfl, O1⟩
        obtain ⟨r, rfl⟩ : ∃ r : Nat, room = (r : Int) := ⟨room.toNat, by omega⟩
        have hm0 : (0 : Int) ≤ (r : Int) := by omega
        have hm1 : (r : Int) ≤ 5000 := by omega
        have hm2 : (k : Int) ≤ 60 := by omega
        clear hneg hbig
        have HNEW := Lib.hid (new_any (w := w) r (by omega))
        go_wp2_with (first
          | (go_at_call 12; refine HNEW.out.mono ?_; rintro e w1 ⟨d, rfl, D1, O1, hd⟩; have P1 : ∀ x ∈ [d], w.heap.size ≤ x := (fun x hx => by simp at hx; rw [hx]; exact hd)))
        have HS0 : Hid ((⟨r, [], none⟩ : St).fuse = none ∧ (⟨r, [], none⟩ : St).room = r ∧ (⟨r, [], none⟩ : St).fs.length ≤ 0) := ⟨rfl, rfl, Nat.le_refl _⟩
        clear HNEW hd
        go_loopw [9] (fun i wr => ∃ (j : Nat) (F : List Nat) (S : St), j ≤ k ∧ i = .int .i64 j ∧ Disk wr d F S ∧ Hid (S.fuse = none ∧ S.room = r ∧ S.fs.length ≤ j) ∧ Only [] w wr ∧ ∀ x ∈ F, w.heap.size ≤ x) (fun i _ => k - (intOf i).toNat)
        case atStart => exact ⟨0, [d], _, Nat.zero_le _, rfl, D1, HS0, O1, P1⟩
        case round =>
          obtain ⟨j, F, S, hj, rfl, D3, HS, Q3, P3⟩ := hrel
          by_cases hlt2 : j < k
          · have hjl : j < ls.length := by rw [HLs.out]; exact hlt2
            have hrS := (hr.below).only Q3 (fun _ _ hm => by cases hm)
            obtain ⟨ad, Ai, ci, rfl, hadS, hcell, hsl, hst⟩ := hrS.at_ hlt2 hjl
            obtain ⟨row, hrow⟩ : ∃ row, row = ls[j]'hjl := ⟨_, rfl⟩
            have hslW : Hid (∀ W, Only [] w W → Sl W Ai (ls[j]'hjl).length (bvs (ls[j]'hjl))) := fun W hW => by
              have h1 := ((hr.below).only hW (fun _ _ hm => by cases hm)).at_ hlt2 hjl
              obtain ⟨ad', Ai', ci', e1, _, hcell', hsl', _⟩ := h1
              injection e1 with e1
              subst e1
              have hcl := (hW.cell (p := ad.add j) (by rw [add_block]; exact hadS) (by simp)).symm.trans hcell'
              have hcl3 := (Q3.cell (p := ad.add j) (by rw [add_block]; exact hadS) (by simp)).symm.trans hcell
              rw [hcl] at hcl3
              injection hcl3 with hcl3
              injection hcl3 with e2 e3 e4
              subst e2
              exact hsl'
            rw [← hrow] at hcell hsl hst hslW
            obtain ⟨q, hq⟩ : ∃ q, q = j % 3 := ⟨_, rfl⟩
            have hj3 : (j : Int) % 3 = (q : Int) := by omega
            have hcv : ∀ W, (convert 3 5 (.int .i64 (q : Int))).run Try.prog W = .ok (.int .u8 (q : Int)) W := fun W => by
              have h1 := run_convert_int (P := Try.prog) (w := W) 3 5 .i64 (q : Int) (by kernel_rfl) (by kernel_rfl)
              rw [h1]
              have h2 : Try.prog.intKind 5 = .u8 := by kernel_rfl
              rw [h2]
              have h3 : IntKind.u8.wrap (q : Int) = (q : Int) := IntWalk.u8_in _ (by omega)
              rw [h3]
            obtain ⟨s, hs⟩ : ∃ s, s = nameI j := ⟨_, rfl⟩
            have hnm : (convert 32 9 (.slice (some ⟨wr.heap.size, 0, none⟩) 2 2)).run Try.prog (wr.alloc (.cells #[.int .u8 102, .int .u8 (q : Int)] 5)) = .ok (.string s) (wr.alloc (.cells #[.int .u8 102, .int .u8 (q : Int)] 5)) := by
              have hs2 : s = ⟨([102, UInt8.ofNat (j % 3)] : List UInt8).toArray⟩ := hs
              have hb := Bk.new wr 5 #[.int .u8 102, .int .u8 (q : Int)]
              rw [hs2]
              refine run_convert_bytes_back _ _ _ 5 ⟨wr.heap.size, 0, none⟩ 2 [102, UInt8.ofNat (j % 3)] Try.underlying32 Try.underlying5 Try.underlying9 (fun i hi => ?_)
              rw [add_none, Nat.zero_add, hb.cell]
              match i, hi with
              | 0, _ => rfl
              | 1, _ =>
                have h4 : (UInt8.ofNat (j % 3)).toNat = q := by rw [UInt8.toNat_ofNat', hq]; omega
                simp [h4]
            have hok : okName s = true := by rw [hs]; exact okI j
            have hsz : s.size ≤ 64 := by unfold okName at hok; exact (of_decide_eq_true hok).2
            clear hq hs
            have hrb : row.length ≤ 8000 := by
              have h1 := catLen_succ ls j hjl
              have h2 := catLen_le ls (j + 1)
              have h3 := HFl.out
              rw [hrow]
              omega
            have hub := D3.good.2.2
            have hub2 : used S.fs ≤ 1073741824 := by have := D3.good.2.1; omega
            clear hrS hrow
            obtain ⟨hS1, hS2, hS3⟩ := HS.out
            have hrise := D3.good.1.rise
            have hml : s.size ≤ maxLen := by unfold maxLen; omega
            obtain ⟨p, hp⟩ : ∃ p, p = readD S s := ⟨_, rfl⟩
            obtain ⟨u, hu⟩ : ∃ u, u = used S.fs := ⟨_, rfl⟩
            obtain ⟨m, hm⟩ : ∃ m, m = row.length := ⟨_, rfl⟩
            have hpu : p.length ≤ u := by
              rw [hp, hu]
              unfold readD
              cases hg : get S.fs s with
              | none => exact Nat.zero_le _
              | some f => exact used_le (get_some hg).1
            obtain ⟨pl, hpl⟩ : ∃ pl, pl = p.length := ⟨_, rfl⟩
            rw [← hpl] at hpu
            rw [← hu] at hub hub2
            have HRD := Lib.hid (fun (W : World) (hD : Disk W d F S) => read_any hD s hml)
            rw [← hp] at HRD
            have HPL : Hid (p.length = pl) := hpl.symm
            have HUS := Lib.hid (fun (W : World) (hD : Disk W d F S) => used_any hD)
            rw [← hu] at HUS
            have HAP := Lib.hid (fun (W : World) (hD : Disk W d F S) (hs' : Sl W Ai row.length (bvs row)) => append_one hD s Ai row.length ci row rfl hs' (fun hpos ad2 e hx => by have h1 := hst hpos ad2 e; have h2 := P3 _ hx; omega))
            rw [← hm] at HAP hcell hsl hrb hslW
            by_cases hfit : u + m ≤ r
            · obtain ⟨f1, f2, f3, f4, f5, f6⟩ := app_fits (S := S) (p := row) hok hS1 (by omega) hrise (by rw [← hu, ← hm, hS2]; exact hfit)
              obtain ⟨S', hS'⟩ : ∃ S', S' = appendS S s row := ⟨_, rfl⟩
              rw [f1, ← hS'] at HAP
              rw [← hS'] at f2 f3 f4 f5 f6
              rw [← hu, ← hm] at f3
              have HRD2 := Lib.hid (fun (W : World) (F' : List Nat) (hD : Disk W d F' S') => read_any hD s hml)
              rw [f2, ← hp] at HRD2
              have HUS2 := Lib.hid (fun (W : World) (F' : List Nat) (hD : Disk W d F' S') => used_any hD)
              rw [f3] at HUS2
              have HS' : Hid (S'.fuse = none ∧ S'.room = r ∧ S'.fs.length ≤ j + 1) := ⟨f5, f6.trans hS2, by omega⟩
              have hfi : (u : Int) + (m : Int) ≤ (r : Int) := by omega
              have hg0 : decide ((u : Int) + (m : Int) ≤ (r : Int)) = true := decide_eq_true hfi
              obtain ⟨um, hum⟩ : ∃ um, um = u + m := ⟨_, rfl⟩
              rw [← hum] at HUS2
              have hg1 : decide ((r : Int) < (um : Int)) = false := decide_eq_false (by omega)
              have hg2 : decide (r < um) = false := decide_eq_false (by omega)
              clear hum
              have HPR : Hid ((p ++ row).length = pl + m) := by show _ = _; rw [List.length_append, ← hpl, ← hm]
              have hadz : ad.block < wr.heap.size := by have := Q3.size; omega
              have HX := Lib.hid hcell
              clear f1 f2 f3 f4 f5 f6 hS1 hS2 hS3 hrise hp hu hm hpl hst hS' hfit hok
              go_wp2_with (first
                | (go_at_call 21; refine (HRD2.out w4 F4 D4).mono ?_; rintro e w5 ⟨A5, c5, rfl, V5, O5, B5⟩; rw [HPR.out] at V5 ⊢; have D5 := D4.keep O5; have V15 := V14.keep O5; have Q5 := Q4.then O5; have k5 := O5.cellSome k4 (by simp); have sl5 := sl4.keep O5)
                | (go_at_call 21; refine (HRD.out _ (D3.keep ((Only.refl [] wr).alloc _))).mono ?_; rintro e w3 ⟨A1, c1, rfl, V1, O1', B1⟩; rw [HPL.out] at V1 ⊢; have O13 := ((Only.refl [] wr).alloc (.cells #[.int .u8 102, .int .u8 (q : Int)] 5)).then O1'; have DD := D3.keep O13; have sl3 := hsl.keep O13; have k3 := O13.cellSome hcell (by simp); have Q33 := Q3.then O13; have v1f : ∀ x ∈ blks A1, wr.heap.size ≤ x := (fun x hx => by have h1 := B1 x hx; rw [World.size_alloc] at h1; omega))
                | (go_at_call 28; refine (HUS.out w3 DD).mono ?_; rintro e w3' ⟨rfl, rfl⟩)
                | (go_at_call 16; refine (HAP.out w3 DD sl3).mono ?_; rintro e w4 ⟨rfl, F4, D4, O4, B4⟩; have Q4 := Q33.fresh O4 P3; have P4 := fresh_fp Q33 P3 B4; have V14 := V1.only O4 (fun x hx hm => by have h1 := D3.lt hm; have h2 := v1f x hx; omega); have k4 := O4.cellSome k3 (by rw [add_block]; intro hm; have h2 := P3 _ hm; omega); have sl4 := hslW.out w4 Q4))
              have hsm : ((pl : Int) + (m : Int)) ≤ 20000 := by omega
              clear k4 sl4 k3 sl3 hcell hsl V14 V1 O4 O5 O1' O13 B1 B5 DD D4
              have q0 : Only [] w5 w5.drew := (Only.refl [] w5).drew
              have HV8 := Lib.hid (fun (W W' : World) (A8 : Option Addr) (c8 : Nat) (h : Only [] w5 W) (hv : Own W 5 A8 (pl + m) c8 (bvs (p ++ row))) => same_eq A5 A8 (pl + m) c5 (pl + m) c8 (p ++ row) (p ++ row) W rfl (V5.sl.keep h) hv.sl (by omega))
              refine wp_region_noPanic ?_
              refine wp_region_held_drew (S := fun W => Only [] w5 W ∧ W.cell? (ad.add j) = some (.slice Ai m ci)) (by kernel_rfl) (oc_drew k5) (fun hH => ?_)
              refine wpAnyH_take (i := 0) (oi := ⟨some 105, _, _, _, _, _⟩) (v := ?v0) rfl (by kernel_rfl) (by kernel_rfl) (by kernel_rfl) (fun _ _ _ h => h) (Or.inl ⟨by rfl, ?hy0⟩) hH ?rest0
              case hy0 =>
                intro wS hS
                obtain ⟨hSo, hSc⟩ := hS
                first | (go_simp; done) | (go_simp; with_reducible rfl)
              try simp only [Act.put, List.setIfInBounds_toArray, List.set_cons_zero, List.set_cons_succ]
              refine wpAnyH_take (i := 1) (oi := ⟨some 106, _, _, _, _, _⟩) (v := ?v1) rfl (by kernel_rfl) (by kernel_rfl) (by kernel_rfl) (fun _ _ _ h => h) (Or.inl ⟨by rfl, ?hy1⟩) hH ?rest1
              case hy1 =>
                intro wS hS
                obtain ⟨hSo, hSc⟩ := hS
                first | (go_simp; done) | (go_simp; with_reducible rfl)
              try simp only [Act.put, List.setIfInBounds_toArray, List.set_cons_zero, List.set_cons_succ]
              refine wpAnyH_take (i := 2) (oi := ⟨some 107, _, _, _, _, _⟩) (v := ?v2) rfl (by kernel_rfl) (by kernel_rfl) (by kernel_rfl) (fun _ _ _ h => h) (Or.inl ⟨by rfl, ?hy2⟩) hH ?rest2
              case hy2 =>
                intro wS hS
                obtain ⟨hSo, hSc⟩ := hS
                first | (go_simp; done) | (go_simp; with_reducible rfl)
              try simp only [Act.put, List.setIfInBounds_toArray, List.set_cons_zero, List.set_cons_succ]
              refine wpAnyH_take (i := 3) (oi := ⟨some 108, _, _, _, _, _⟩) (v := ?v3) rfl (by kernel_rfl) (by kernel_rfl) (by kernel_rfl) (fun _ _ _ h => h) (Or.inl ⟨by rfl, ?hy3⟩) hH ?rest3
              case hy3 =>
                intro wS hS
                obtain ⟨hSo, hSc⟩ := hS
                first | (go_simp; done) | (go_simp; with_reducible rfl)
              try simp only [Act.put, List.setIfInBounds_toArray, List.set_cons_zero, List.set_cons_succ]
              refine wpAnyH_take (i := 4) (oi := ⟨some 109, _, _, _, _, _⟩) (v := ?v4) rfl (by kernel_rfl) (by kernel_rfl) (by kernel_rfl) (fun _ _ _ h => h) (Or.inl ⟨by rfl, ?hy4⟩) hH ?rest4
              case hy4 =>
                intro wS hS
                obtain ⟨hSo, hSc⟩ := hS
                first | (go_simp; done) | (go_simp; with_reducible rfl)
              try simp only [Act.put, List.setIfInBounds_toArray, List.set_cons_zero, List.set_cons_succ]
              refine wpAnyH_take (i := 5) (oi := ⟨some 110, _, _, _, _, _⟩) (v := ?v5) rfl (by kernel_rfl) (by kernel_rfl) (by kernel_rfl) (fun _ _ _ h => h) (Or.inl ⟨by rfl, ?hy5⟩) hH ?rest5
              case hy5 =>
                intro wS hS
                obtain ⟨hSo, hSc⟩ := hS
                first | (go_simp; done) | (go_simp; with_reducible rfl)
              try simp only [Act.put, List.setIfInBounds_toArray, List.set_cons_zero, List.set_cons_succ]
              refine wpAnyH_take (i := 7) (oi := ⟨some 112, _, _, _, _, _⟩) (v := ?v7) rfl (by kernel_rfl) (by kernel_rfl) (by kernel_rfl) (fun _ _ _ h => h) (Or.inl ⟨by rfl, ?hy7⟩) hH ?rest7
              case hy7 =>
                intro wS hS
                obtain ⟨hSo, hSc⟩ := hS
                first | (go_simp; done) | (go_simp; with_reducible rfl)
              try simp only [Act.put, List.setIfInBounds_toArray, List.set_cons_zero, List.set_cons_succ]
              refine wpAnyH_ready (rs := [6]) (by kernel_rfl) (by simp) ?_
              refine AllReadyH.cons (o := ⟨some 111, _, _, _, _, _⟩) rfl (fun K hK => ?_) AllReadyH.nil
              refine take_w rfl ?_
              go_simp
              (go_at_call 28; refine (HUS2.out _ F4 (D5.keep hH.1)).mono ?_; rintro e w6 ⟨rfl, rfl⟩)
              try (go_wp2_with fail)
              refine hK.out _ _ (hH) (fun hH => ?_)
              clear hK K
              try simp only [Act.put, List.setIfInBounds_toArray, List.set_cons_zero, List.set_cons_succ]
              refine wpAnyH_take (i := 8) (oi := ⟨some 113, _, _, _, _, _⟩) (v := ?v8) rfl (by kernel_rfl) (by kernel_rfl) (by kernel_rfl) (fun _ _ _ h => h) (Or.inl ⟨by rfl, ?hy8⟩) hH ?rest8
              case hy8 =>
                intro wS hS
                obtain ⟨hSo, hSc⟩ := hS
                first | (go_simp; done) | (go_simp; with_reducible rfl)
              try simp only [Act.put, List.setIfInBounds_toArray, List.set_cons_zero, List.set_cons_succ]
              refine wpAnyH_take (i := 9) (oi := ⟨some 114, _, _, _, _, _⟩) (v := ?v9) rfl (by kernel_rfl) (by kernel_rfl) (by kernel_rfl) (fun _ _ _ h => h) (Or.inl ⟨by rfl, ?hy9⟩) hH ?rest9
              case hy9 =>
                intro wS hS
                obtain ⟨hSo, hSc⟩ := hS
                first | (go_simp; done) | (go_simp; with_reducible rfl)
              try simp only [Act.put, List.setIfInBounds_toArray, List.set_cons_zero, List.set_cons_succ]
              refine wpAnyH_take (i := 10) (oi := ⟨some 115, _, _, _, _, _⟩) (v := ?v10) rfl (by kernel_rfl) (by kernel_rfl) (by kernel_rfl) (fun _ _ _ h => h) (Or.inl ⟨by rfl, ?hy10⟩) hH ?rest10
              case hy10 =>
                intro wS hS
                obtain ⟨hSo, hSc⟩ := hS
                first | (go_simp; done) | (go_simp; with_reducible rfl)
              try simp only [Act.put, List.setIfInBounds_toArray, List.set_cons_zero, List.set_cons_succ]
              refine wpAnyH_take (i := 11) (oi := ⟨some 116, _, _, _, _, _⟩) (v := ?v11) rfl (by kernel_rfl) (by kernel_rfl) (by kernel_rfl) (fun _ _ _ h => h) (Or.inl ⟨by rfl, ?hy11⟩) hH ?rest11
              case hy11 =>
                intro wS hS
                obtain ⟨hSo, hSc⟩ := hS
                first | (go_simp; done) | (go_simp; with_reducible rfl)
              try simp only [Act.put, List.setIfInBounds_toArray, List.set_cons_zero, List.set_cons_succ]
              refine wpAnyH_take (i := 12) (oi := ⟨some 117, _, _, _, _, _⟩) (v := ?v12) rfl (by kernel_rfl) (by kernel_rfl) (by kernel_rfl) (fun _ _ _ h => h) (Or.inl ⟨by rfl, ?hy12⟩) hH ?rest12
              case hy12 =>
                intro wS hS
                obtain ⟨hSo, hSc⟩ := hS
                first | (go_simp; done) | (go_simp; with_reducible rfl)
              try simp only [Act.put, List.setIfInBounds_toArray, List.set_cons_zero, List.set_cons_succ]
              refine wpAnyH_take (i := 13) (oi := ⟨some 118, _, _, _, _, _⟩) (v := ?v13) rfl (by kernel_rfl) (by kernel_rfl) (by kernel_rfl) (fun _ _ _ h => h) (Or.inl ⟨by rfl, ?hy13⟩) hH ?rest13
              case hy13 =>
                intro wS hS
                obtain ⟨hSo, hSc⟩ := hS
                first | (go_simp; done) | (go_simp; with_reducible rfl)
              try simp only [Act.put, List.setIfInBounds_toArray, List.set_cons_zero, List.set_cons_succ]
              refine wpAnyH_take (i := 14) (oi := ⟨some 119, _, _, _, _, _⟩) (v := undef) rfl (by kernel_rfl) (by kernel_rfl) (by kernel_rfl) (fun _ _ _ h => h) (Or.inr ⟨by rfl, rfl⟩) hH ?_
              try simp only [Act.put, List.setIfInBounds_toArray, List.set_cons_zero, List.set_cons_succ]
              refine wpAnyH_take (i := 15) (oi := ⟨some 120, _, _, _, _, _⟩) (v := undef) rfl (by kernel_rfl) (by kernel_rfl) (by kernel_rfl) (fun _ _ _ h => h) (Or.inr ⟨by rfl, rfl⟩) hH ?_
              try simp only [Act.put, List.setIfInBounds_toArray, List.set_cons_zero, List.set_cons_succ]
              refine wpAnyH_ready (rs := [16]) (by kernel_rfl) (by simp) ?_
              refine AllReadyH.cons (o := ⟨some 121, _, _, _, _, _⟩) rfl (fun K hK => ?_) AllReadyH.nil
              refine skip_w rfl ?_
              refine hK.out _ _ hH (fun _ => ?_)
              clear hK K
              try simp only [Act.put, List.setIfInBounds_toArray, List.set_cons_zero, List.set_cons_succ]
              refine wpAnyH_take (i := 17) (oi := ⟨some 122, _, _, _, _, _⟩) (v := undef) rfl (by kernel_rfl) (by kernel_rfl) (by kernel_rfl) (fun _ _ _ h => h) (Or.inr ⟨by rfl, rfl⟩) hH ?_
              try simp only [Act.put, List.setIfInBounds_toArray, List.set_cons_zero, List.set_cons_succ]
              refine wpAnyH_take (i := 18) (oi := ⟨some 123, _, _, _, _, _⟩) (v := undef) rfl (by kernel_rfl) (by kernel_rfl) (by kernel_rfl) (fun _ _ _ h => h) (Or.inr ⟨by rfl, rfl⟩) hH ?_
              try simp only [Act.put, List.setIfInBounds_toArray, List.set_cons_zero, List.set_cons_succ]
              refine wpAnyH_take (i := 19) (oi := ⟨some 124, _, _, _, _, _⟩) (v := undef) rfl (by kernel_rfl) (by kernel_rfl) (by kernel_rfl) (fun _ _ _ h => h) (Or.inr ⟨by rfl, rfl⟩) hH ?_
              try simp only [Act.put, List.setIfInBounds_toArray, List.set_cons_zero, List.set_cons_succ]
              refine wpAnyH_take (i := 21) (oi := ⟨some 126, _, _, _, _, _⟩) (v := undef) rfl (by kernel_rfl) (by kernel_rfl) (by kernel_rfl) (fun _ _ _ h => h) (Or.inr ⟨by rfl, rfl⟩) hH ?_
              try simp only [Act.put, List.setIfInBounds_toArray, List.set_cons_zero, List.set_cons_succ]
              refine wpAnyH_ready (rs := [20]) (by kernel_rfl) (by simp) ?_
              refine AllReadyH.cons (o := ⟨some 125, _, _, _, _, _⟩) rfl (fun K hK => ?_) AllReadyH.nil
              refine skip_w rfl ?_
              refine hK.out _ _ hH (fun _ => ?_)
              clear hK K
              try simp only [Act.put, List.setIfInBounds_toArray, List.set_cons_zero, List.set_cons_succ]
              refine wpAnyH_take (i := 22) (oi := ⟨some 127, _, _, _, _, _⟩) (v := undef) rfl (by kernel_rfl) (by kernel_rfl) (by kernel_rfl) (fun _ _ _ h => h) (Or.inr ⟨by rfl, rfl⟩) hH ?_
              try simp only [Act.put, List.setIfInBounds_toArray, List.set_cons_zero, List.set_cons_succ]
              refine wpAnyH_take (i := 23) (oi := ⟨some 128, _, _, _, _, _⟩) (v := undef) rfl (by kernel_rfl) (by kernel_rfl) (by kernel_rfl) (fun _ _ _ h => h) (Or.inr ⟨by rfl, rfl⟩) hH ?_
              try simp only [Act.put, List.setIfInBounds_toArray, List.set_cons_zero, List.set_cons_succ]
              refine wpAnyH_take (i := 24) (oi := ⟨some 129, _, _, _, _, _⟩) (v := ?v24) rfl (by kernel_rfl) (by kernel_rfl) (by kernel_rfl) (fun _ _ _ h => h) (Or.inl ⟨by rfl, ?hy24⟩) hH ?rest24
              case hy24 =>
                intro wS hS
                obtain ⟨hSo, hSc⟩ := hS
                first | (go_simp; done) | (go_simp; with_reducible rfl)
              try simp only [Act.put, List.setIfInBounds_toArray, List.set_cons_zero, List.set_cons_succ]
              refine wpAnyH_take (i := 25) (oi := ⟨some 130, _, _, _, _, _⟩) (v := ?v25) rfl (by kernel_rfl) (by kernel_rfl) (by kernel_rfl) (fun _ _ _ h => h) (Or.inl ⟨by rfl, ?hy25⟩) hH ?rest25
              case hy25 =>
                intro wS hS
                obtain ⟨hSo, hSc⟩ := hS
                first | (go_simp; done) | (go_simp; with_reducible rfl)
              try simp only [Act.put, List.setIfInBounds_toArray, List.set_cons_zero, List.set_cons_succ]
              refine wpAnyH_take (i := 26) (oi := ⟨some 131, _, _, _, _, _⟩) (v := ?v26) rfl (by kernel_rfl) (by kernel_rfl) (by kernel_rfl) (fun _ _ _ h => h) (Or.inl ⟨by rfl, ?hy26⟩) hH ?rest26
              case hy26 =>
                intro wS hS
                obtain ⟨hSo, hSc⟩ := hS
                first | (go_simp; done) | (go_simp; with_reducible rfl)
              try simp only [Act.put, List.setIfInBounds_toArray, List.set_cons_zero, List.set_cons_succ]
              refine wpAnyH_take (i := 27) (oi := ⟨some 132, _, _, _, _, _⟩) (v := ?v27) rfl (by kernel_rfl) (by kernel_rfl) (by kernel_rfl) (fun _ _ _ h => h) (Or.inl ⟨by rfl, ?hy27⟩) hH ?rest27
              case hy27 =>
                intro wS hS
                obtain ⟨hSo, hSc⟩ := hS
                first | (go_simp; done) | (go_simp; with_reducible rfl)
              try simp only [Act.put, List.setIfInBounds_toArray, List.set_cons_zero, List.set_cons_succ]
              refine wpAnyH_take (i := 28) (oi := ⟨some 133, _, _, _, _, _⟩) (v := ?v28) rfl (by kernel_rfl) (by kernel_rfl) (by kernel_rfl) (fun _ _ _ h => h) (Or.inl ⟨by rfl, ?hy28⟩) hH ?rest28
              case hy28 =>
                intro wS hS
                obtain ⟨hSo, hSc⟩ := hS
                first | (go_simp; done) | (go_simp; with_reducible rfl)
              try simp only [Act.put, List.setIfInBounds_toArray, List.set_cons_zero, List.set_cons_succ]
              refine wpAnyH_take (i := 29) (oi := ⟨some 134, _, _, _, _, _⟩) (v := ?v29) rfl (by kernel_rfl) (by kernel_rfl) (by kernel_rfl) (fun _ _ _ h => h) (Or.inl ⟨by rfl, ?hy29⟩) hH ?rest29
              case hy29 =>
                intro wS hS
                obtain ⟨hSo, hSc⟩ := hS
                first | (go_simp; done) | (go_simp; with_reducible rfl)
              try simp only [Act.put, List.setIfInBounds_toArray, List.set_cons_zero, List.set_cons_succ]
              refine wpAnyH_take (i := 31) (oi := ⟨some 136, _, _, _, _, _⟩) (v := ?v31) rfl (by kernel_rfl) (by kernel_rfl) (by kernel_rfl) (fun _ _ _ h => h) (Or.inl ⟨by rfl, ?hy31⟩) hH ?rest31
              case hy31 =>
                intro wS hS
                obtain ⟨hSo, hSc⟩ := hS
                first | (go_simp; done) | (go_simp; with_reducible rfl)
              try simp only [Act.put, List.setIfInBounds_toArray, List.set_cons_zero, List.set_cons_succ]
              refine wpAnyH_take (i := 33) (oi := ⟨some 138, _, _, _, _, _⟩) (v := ?v33) rfl (by kernel_rfl) (by kernel_rfl) (by kernel_rfl) (fun _ _ _ h => h) (Or.inl ⟨by rfl, ?hy33⟩) hH ?rest33
              case hy33 =>
                intro wS hS
                obtain ⟨hSo, hSc⟩ := hS
                first | (go_simp; done) | (go_simp; with_reducible rfl)
              try simp only [Act.put, List.setIfInBounds_toArray, List.set_cons_zero, List.set_cons_succ]
              refine wpAnyH_take (i := 34) (oi := ⟨some 139, _, _, _, _, _⟩) (v := ?v34) rfl (by kernel_rfl) (by kernel_rfl) (by kernel_rfl) (fun _ _ _ h => h) (Or.inl ⟨by rfl, ?hy34⟩) hH ?rest34
              case hy34 =>
                intro wS hS
                obtain ⟨hSo, hSc⟩ := hS
                first | (go_simp; done) | (go_simp; with_reducible rfl)
              try simp only [Act.put, List.setIfInBounds_toArray, List.set_cons_zero, List.set_cons_succ]
              refine wpAnyH_take (i := 35) (oi := ⟨some 140, _, _, _, _, _⟩) (v := ?v35) rfl (by kernel_rfl) (by kernel_rfl) (by kernel_rfl) (fun _ _ _ h => h) (Or.inl ⟨by rfl, ?hy35⟩) hH ?rest35
              case hy35 =>
                intro wS hS
                obtain ⟨hSo, hSc⟩ := hS
                first | (go_simp; done) | (go_simp; with_reducible rfl)
              try simp only [Act.put, List.setIfInBounds_toArray, List.set_cons_zero, List.set_cons_succ]
              refine wpAnyH_take (i := 36) (oi := ⟨some 141, _, _, _, _, _⟩) (v := ?v36) rfl (by kernel_rfl) (by kernel_rfl) (by kernel_rfl) (fun _ _ _ h => h) (Or.inl ⟨by rfl, ?hy36⟩) hH ?rest36
              case hy36 =>
                intro wS hS
                obtain ⟨hSo, hSc⟩ := hS
                first | (go_simp; done) | (go_simp; with_reducible rfl)
              try simp only [Act.put, List.setIfInBounds_toArray, List.set_cons_zero, List.set_cons_succ]
              refine wpAnyH_ready (rs := [30]) (by kernel_rfl) (by simp) ?_
              refine AllReadyH.cons (o := ⟨some 135, _, _, _, _, _⟩) rfl (fun K hK => ?_) AllReadyH.nil
              refine take_w rfl ?_
              go_simp
              refine hK.out _ _ (oc_alloc hH _) (fun hH => ?_)
              clear hK K
              try simp only [Act.put, List.setIfInBounds_toArray, List.set_cons_zero, List.set_cons_succ]
              refine wpAnyH_ready (rs := [32]) (by kernel_rfl) (by simp) ?_
              refine AllReadyH.cons (o := ⟨some 137, _, _, _, _, _⟩) rfl (fun K hK => ?_) AllReadyH.nil
              refine take_w rfl ?_
              (refine wp_append_sl (.tmp 135) (.tmp 136) 32 rfl 5 i0 (.int .u8 0) 1 Try.underlying32 hi hz0 hz1 hz2 rfl _ 0 0 [] rfl (World.ownsRow_lit _ #[] 0 (Nat.zero_le _) (Nat.zero_le _) rfl) A1 pl c1 (bvs p) rfl (V15.sl.keep (((Only.refl [] w5).drew).alloc _)) (bvs_one _) (by unfold maxLen; omega) (by omega) ?_; intro A7 c7 w7 V7 O7 B7; rw [List.nil_append] at V7; rw [Nat.zero_add] at V7; rw [Nat.zero_add pl]; have q7 := (((Only.refl [] w5).drew).alloc _).trans O7 (fun x hx => by simp at hx; exact .inr (by omega)); have z7 : ∀ x ∈ blks A7, w5.heap.size ≤ x := (fun x hx => by rcases B7 x hx with h | h; (simp at h; omega); (have h1 : (w5.alloc (.cells #[] 5)).heap.size ≤ x := h; rw [World.size_alloc] at h1; omega)))
              refine hK.out _ _ (oc_of q7 k5) (fun hH => ?_)
              clear hK K
              try simp only [Act.put, List.setIfInBounds_toArray, List.set_cons_zero, List.set_cons_succ]
              refine wpAnyH_ready (rs := [37]) (by kernel_rfl) (by simp) ?_
              refine AllReadyH.cons (o := ⟨some 142, _, _, _, _, _⟩) rfl (fun K hK => ?_) AllReadyH.nil
              refine take_w rfl ?_
              (refine wp_append_sl (.tmp 137) (.tmp 141) 32 rfl 5 i0 (.int .u8 0) 1 Try.underlying32 hi hz0 hz1 hz2 rfl A7 pl c7 _ rfl V7 Ai m ci (bvs row) rfl (sl5.keep q7) (bvs_one _) (by unfold maxLen; omega) (by omega) ?_; intro A8 c8 w8 V8 O8 B8; rw [← bvs_append] at V8; have q8 := q7.trans O8 (fun x hx => .inr (z7 x hx)))
              refine hK.out _ _ (oc_of q8 k5) (fun hH => ?_)
              clear hK K
              try simp only [Act.put, List.setIfInBounds_toArray, List.set_cons_zero, List.set_cons_succ]
              refine wpAnyH_ready (rs := [38]) (by kernel_rfl) (by simp) ?_
              refine AllReadyH.cons (o := ⟨some 143, _, _, _, _, _⟩) rfl (fun K hK => ?_) AllReadyH.nil
              refine take_w rfl ?_
              go_simp
              (go_at_call 22; refine (HV8.out w8 w8 A8 c8 q8 V8).mono ?_; rintro e w9 ⟨rfl, O9⟩; have q9 := q8.then O9)
              try (go_wp2_with fail)
              refine hK.out _ _ (oc_of q9 k5) (fun hH => ?_)
              clear hK K
              try simp only [Act.put, List.setIfInBounds_toArray, List.set_cons_zero, List.set_cons_succ]
              refine wpAnyH_take (i := 39) (oi := ⟨some 144, _, _, _, _, _⟩) (v := ?v39) rfl (by kernel_rfl) (by kernel_rfl) (by kernel_rfl) (fun _ _ _ h => h) (Or.inl ⟨by rfl, ?hy39⟩) hH ?rest39
              case hy39 =>
                intro wS hS
                obtain ⟨hSo, hSc⟩ := hS
                first | (go_simp; done) | (go_simp; with_reducible rfl)
              try simp only [Act.put, List.setIfInBounds_toArray, List.set_cons_zero, List.set_cons_succ]
              refine wpAnyH_take (i := 40) (oi := ⟨some 145, _, _, _, _, _⟩) (v := ?v40) rfl (by kernel_rfl) (by kernel_rfl) (by kernel_rfl) (fun _ _ _ h => h) (Or.inl ⟨by rfl, ?hy40⟩) hH ?rest40
              case hy40 =>
                intro wS hS
                obtain ⟨hSo, hSc⟩ := hS
                first | (go_simp; done) | (go_simp; with_reducible rfl)
              try simp only [Act.put, List.setIfInBounds_toArray, List.set_cons_zero, List.set_cons_succ]
              refine wpAnyH_take (i := 41) (oi := ⟨some 146, _, _, _, _, _⟩) (v := ?v41) rfl (by kernel_rfl) (by kernel_rfl) (by kernel_rfl) (fun _ _ _ h => h) (Or.inl ⟨by rfl, ?hy41⟩) hH ?rest41
              case hy41 =>
                intro wS hS
                obtain ⟨hSo, hSc⟩ := hS
                first | (go_simp; done) | (go_simp; with_reducible rfl)
              try simp only [Act.put, List.setIfInBounds_toArray, List.set_cons_zero, List.set_cons_succ]
              refine wpAnyH_done (by kernel_rfl) ?_ _
              refine NoPanic.normal ?_
              go_wp2
              go_roundw
              case rel => exact ⟨j + 1, F4, S', by omega, by go_num, D5.keep q9, HS', Q5.then q9, P4⟩
              case measure => simp [intOf]; omega
            · obtain ⟨f1, f2⟩ := app_over (S := S) (p := row) hok hS1 (by rw [← hu, ← hm, hS2]; exact hfit)
              rw [f1, f2] at HAP
              have HRD2 := Lib.hid (fun (W : World) (F' : List Nat) (hD : Disk W d F' S) => read_any hD s hml)
              rw [← hp] at HRD2
              have HUS2 := Lib.hid (fun (W : World) (F' : List Nat) (hD : Disk W d F' S) => used_any hD)
              rw [← hu] at HUS2
              have HS' : Hid (S.fuse = none ∧ S.room = r ∧ S.fs.length ≤ j + 1) := ⟨hS1, hS2, by omega⟩
              have hg0 : decide ((u : Int) + (m : Int) ≤ (r : Int)) = false := decide_eq_false (by omega)
              have hg1 : decide ((r : Int) < (u : Int)) = false := decide_eq_false (by omega)
              have hg2 : decide (r < u) = false := decide_eq_false (by omega)
              have hadz : ad.block < wr.heap.size := by have := Q3.size; omega
              have HX := Lib.hid hcell
              have hubb : u ≤ r := by omega
              clear f1 f2 hS1 hS2 hS3 hrise hp hu hm hpl hst hok
              go_wp2_with (first
                | (go_at_call 21; refine (HRD2.out w4 F4 D4).mono ?_; rintro e w5 ⟨A5, c5, rfl, V5, O5, B5⟩; rw [HPL.out] at V5 ⊢; have D5 := D4.keep O5; have V15 := V14.keep O5; have Q5 := Q4.then O5; have k5 := O5.cellSome k4 (by simp); have sl5 := sl4.keep O5)
                | (go_at_call 21; refine (HRD.out _ (D3.keep ((Only.refl [] wr).alloc _))).mono ?_; rintro e w3 ⟨A1, c1, rfl, V1, O1', B1⟩; rw [HPL.out] at V1 ⊢; have O13 := ((Only.refl [] wr).alloc (.cells #[.int .u8 102, .int .u8 (q : Int)] 5)).then O1'; have DD := D3.keep O13; have sl3 := hsl.keep O13; have k3 := O13.cellSome hcell (by simp); have Q33 := Q3.then O13; have v1f : ∀ x ∈ blks A1, wr.heap.size ≤ x := (fun x hx => by have h1 := B1 x hx; rw [World.size_alloc] at h1; omega))
                | (go_at_call 28; refine (HUS.out w3 DD).mono ?_; rintro e w3' ⟨rfl, rfl⟩)
                | (go_at_call 16; refine (HAP.out w3 DD sl3).mono ?_; rintro e w4 ⟨rfl, F4, D4, O4, B4⟩; have Q4 := Q33.fresh O4 P3; have P4 := fresh_fp Q33 P3 B4; have V14 := V1.only O4 (fun x hx hm => by have h1 := D3.lt hm; have h2 := v1f x hx; omega); have k4 := O4.cellSome k3 (by rw [add_block]; intro hm; have h2 := P3 _ hm; omega); have sl4 := hslW.out w4 Q4))
              have HQ := Lib.hid (fun (q : Nat) => quiet_on (w := w5) (n := q) (same_q A5 A1 pl c5 pl c1 p p (w5.drewN q) (V5.sl.drewN q) (V15.sl.drewN q) (by omega) (by omega)))
              rw [decide_eq_true rfl] at HQ
              clear k4 sl4 k3 sl3 hcell hsl V14 V1 O4 O5 O1' O13 B1 B5 DD D4
              go_quiet (first
                | (go_at_call 28; exact quiet_back (HUS2.out _ F4 (D5.keep ((Only.refl [] w5).drewN _))))
                | (go_at_call 22; exact HQ.out _))
              go_wp2
              go_roundw
              case rel => exact ⟨j + 1, F4, S, by omega, by go_num, D5.keep ((Only.refl [] w5).drewN _), HS', Q5.then ((Only.refl [] w5).drewN _), P4⟩
              case measure => simp [intOf]; omega
          · go_wp2_with (go_at_call 11; refine (known_any wr).mono ?_; rintro e w7 ⟨rfl, O7⟩)
            go_ret
            exact ⟨rfl, Q3.then O7⟩
end Go.Proofs.Ytbciompelpbkdaa
