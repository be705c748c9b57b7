/-
  disk's Truncate and Rename.
-/
import Derived.Test.YtblggoneifmoeaaDoorDEach
namespace Go.Proofs.YtblggoneifmoeaaDoor
open Go.RowKit Go.Maps

section
variable {S : St} {s : ByteArray} {n : Int}
theorem errT_err {r : Nat} (h : errF S s = r) (h0 : r ≠ 0) : errT S s n = r := by unfold errT; rw [h, if_pos h0]
theorem errT_bad (h : errF S s = 0) {f : Fl} (hg : get S.fs s = some f) (hn : n < 0 ∨ (f.data.length : Int) < n) : errT S s n = 1 := by unfold errT; rw [h, if_neg (by omega), hg]; simp [hn]
theorem errT_ok (h : errF S s = 0) {f : Fl} (hg : get S.fs s = some f) (hn : ¬ (n < 0 ∨ (f.data.length : Int) < n)) : errT S s n = 0 := by unfold errT; rw [h, if_neg (by omega), hg]; simp only [if_neg hn]
theorem truncS_same {r : Nat} (h : errT S s n = r) (h0 : r ≠ 0) : truncS S s n = S := by unfold truncS; rw [h, if_neg h0]
theorem truncS_ok (h : errT S s n = 0) : truncS S s n = tick { S with fs := upd S.fs s (cutF n.toNat) } := by unfold truncS; rw [h, if_pos rfl]
end

section
variable {w : World} {d : Nat} {F : List Nat} {S : St}
theorem trunc_nil (w : World) (s : ByteArray) (n : Int) : Calls Tryd.prog 20 #[.pointer none, .string s, .int .i64 n] w fun e w' => e = .returned (.int .i64 1) ∧ Only [] w w' := by
  have HF := Lib.hid (find_nil w s)
  go_enter Tryd.func20, Tryd.ntmps20
  go_wp2_with (go_at_call 32; refine HF.out.mono ?_; rintro e w1 ⟨rfl, O1⟩)
  go_ret
  exact ⟨rfl, O1⟩

set_option maxRecDepth 100000 in
theorem trunc_any (h : Disk w d F S) (s : ByteArray) (n : Int) : Calls Tryd.prog 20 #[.pointer (some ⟨d, 0, none⟩), .string s, .int .i64 n] w (Did d F (truncS S s n) (.int .i64 (errT S s n : Nat)) w) := by
  have hD1 := Lib.hid h
  obtain ⟨lf, mb, cs, hk, h1, h2, h3, rfl⟩ := h
  have he := errB_errD h2 [s]
  by_cases h0 : errD S.fuse.isSome lf [s] = 0
  · rw [h0] at he
    have hlf := (errD_one h0).2.2
    cases hc : findC cs s with
    | none =>
      have hg := findC_get h1 s
      rw [hc] at hg
      have e1 := errT_err (n := n) (errF_none he hg) (by omega)
      rw [e1, truncS_same e1 (by omega)]
      have HF := Lib.hid (find_none hk s h0 hc)
      clear hk h1 h2 h3 he h0 hlf hc hg e1
      go_enter Tryd.func20, Tryd.ntmps20
      go_wp2_with (go_at_call 32; refine HF.out.mono ?_; rintro e w1 ⟨rfl, O1⟩)
      go_ret
      exact did_same rfl hD1.out O1
    | some c =>
      obtain ⟨P, Q, rfl, hg, hup, hfs⟩ := split_at hk h1 hc
      have hmem : ∀ x : Fc, x ∈ P ++ x :: Q := fun x => by simp
      have HF := Lib.hid (find_hit hk s h0 hc)
      by_cases hneg : n < 0
      · have e1 := errT_bad (errF_ok he hg) hg (n := n) (.inl hneg)
        rw [e1, truncS_same e1 (by omega)]
        clear hk h1 h2 h3 he h0 hlf hc hg e1 hup hfs
        go_enter Tryd.func20, Tryd.ntmps20
        go_wp2_with (go_at_call 32; refine HF.out.mono ?_; rintro e w1 ⟨rfl, O1⟩)
        go_ret
        exact did_same rfl hD1.out O1
      · by_cases hbig : (c.f.data.length : Int) < n
        · have e1 := errT_bad (errF_ok he hg) hg (n := n) (.inr hbig)
          rw [e1, truncS_same e1 (by omega)]
          have HK := Lib.hid hk
          clear hk h1 h2 h3 he h0 hlf hc hg e1 hup hfs
          go_enter Tryd.func20, Tryd.ntmps20
          go_wp2_with (go_at_call 32; refine HF.out.mono ?_; rintro e w1 ⟨rfl, O1⟩; obtain ⟨e0, _⟩ := (HK.out.keep O1).fcell (hmem _))
          go_ret
          exact did_same rfl hD1.out O1
        · have e1 := errT_ok (errF_ok he hg) hg (n := n) (by omega)
          rw [e1, truncS_ok e1]
          obtain ⟨k, rfl⟩ : ∃ k : Nat, n = (k : Int) := ⟨n.toNat, by omega⟩
          have hkl : k ≤ c.f.data.length := by omega
          have hle : c.f.data.length ≤ used S.fs := used_le (get_some hg).1
          have hus : used (upd S.fs s (cutF k)) = used S.fs + k - c.f.data.length := by
            rw [hup (cutF k)]
            conv => rhs; rw [hfs]
            rw [used_append, used_append]
            simp only [used, cutF, List.length_take]
            omega
          have HUS := Lib.hid hus
          have HUP := Lib.hid (hup (cutF k))
          have HI := Lib.hid (And.intro h2 (And.intro h3 (And.intro hlf hkl)))
          have HCUT := Lib.hid (fun (w1 : World) (O1 : Only [] w w1) => cut_any (hk.keep O1) k hkl (by omega))
          have HK := Lib.hid hk
          have hkl2 : (k : Int) ≤ (c.f.data.length : Int) := by omega
          clear hk h1 h2 h3 he h0 hlf hc hg e1 hup hfs hus hbig hkl hle
          go_enter Tryd.func20, Tryd.ntmps20
          go_wp2_with (first
            | (go_at_call 32; refine HF.out.mono ?_; rintro e w1 ⟨rfl, O1⟩; obtain ⟨e0, _⟩ := (HK.out.keep O1).fcell (hmem _))
            | (go_at_call 31; refine (HCUT.out w1 O1).mono ?_; rintro e w2 ⟨rfl, A2, c2, D2, O2, B2⟩)
            | (go_at_call 33; refine (done_any D2 HI.out.2.2.1).mono ?_; rintro e w3 ⟨rfl, D3, O3⟩))
          go_ret
          have hin : ∀ x ∈ d :: c.blk :: blks c.A, x ∈ fpt d mb (P ++ c :: Q) := fun x hx => by
            rcases List.mem_cons.1 hx with rfl | hx
            · exact mem_fpt.2 (.inl rfl)
            · rcases List.mem_cons.1 hx with rfl | hx
              · exact mem_fpt.2 (.inr (.inr (.inl ⟨c, hmem c, rfl⟩)))
              · exact mem_fpt.2 (.inr (.inr (.inr ⟨c, hmem c, hx⟩)))
          refine did_mk rfl D3 rfl HUS.out (tick_some _) ?_ (tick_fuse HI.out.1) (by have := HI.out.2.1; have := HI.out.2.2.2; omega) (((O1.mono (fun _ hx => by cases hx)).trans O2 (fun x hx => .inl (hin x hx))).trans O3 (fun x hx => by simp at hx; subst hx; exact .inl (mem_fpt.2 (.inl rfl)))) (fpt_swap (fun x hx => .inl hx) rfl (fun x hx => ?_))
          · rw [tick_fs]
            show _ = upd S.fs s (cutF k)
            rw [HUP.out]
            simp
          · rcases B2 x hx with h | h
            · exact .inl (hin x (by simp [h]))
            · have := O1.size
              exact .inr (by omega)
  · obtain ⟨r, hrr⟩ : ∃ r, r = errD S.fuse.isSome lf [s] := ⟨_, rfl⟩
    rw [← hrr] at he h0
    have e1 := errT_err (n := n) (errF_err he h0) h0
    rw [e1, truncS_same e1 h0]
    have HF := Lib.hid (find_err hk s hrr.symm h0)
    have hrb : ((r : Int) != 0) = true := by rw [bne_iff_ne]; omega
    clear hrr he e1 hk h1 h2 h3 h0
    go_enter Tryd.func20, Tryd.ntmps20
    go_wp2_with (go_at_call 32; refine HF.out.mono ?_; rintro e w1 ⟨rfl, O1⟩)
    go_ret
    exact did_same rfl hD1.out O1
end
end Go.Proofs.YtblggoneifmoeaaDoor
