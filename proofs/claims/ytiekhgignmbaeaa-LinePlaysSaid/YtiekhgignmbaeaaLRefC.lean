/-
  The document's Next: no literal is wanted.
-/
import Derived.Test.YtiekhgignmbaeaaLRefL
namespace Go.Proofs.Ytiekhgignmbaeaa
open Go.RowKit Go.Instr

theorem tr_zero : tr [] = [] := rfl
theorem tr_some {q : List UInt8} (h : 0 < q.length) (he : q[q.length - 1]'(by omega) = 13) : (tr q).length = q.length - 1 := by
  have hq : q = q.take (q.length - 1) ++ [13] := by
    have := List.take_append_drop (q.length - 1) q
    rw [List.drop_eq_getElem_cons (by omega), he, List.drop_of_length_le (by omega)] at this
    exact this.symm
  have hs : Lib.hasSuffix q [13] = true := by
    unfold Lib.hasSuffix
    rw [List.isSuffixOf_iff_suffix]
    exact ⟨_, hq.symm⟩
  unfold tr Lib.trimSuffix
  rw [if_pos hs, List.length_take]
  simp
theorem tr_none {q : List UInt8} (h : 0 < q.length) (he : q[q.length - 1]'(by omega) ≠ 13) : (tr q).length = q.length := by
  have hs : ¬ Lib.hasSuffix q [13] = true := by
    unfold Lib.hasSuffix
    rw [List.isSuffixOf_iff_suffix]
    rintro ⟨d, hd⟩
    subst hd
    simp at he
  unfold tr Lib.trimSuffix
  rw [if_neg hs]

section
variable {w : World} {g : Nat} {F : List Nat} {s : LS}

/-- The cells of what waits, by number. -/
theorem byte_at {W : World} {A : Option Addr} {c : Nat} (hG : Gro W A s.b.length c (bvs s.b)) (k : Nat) (hk : k < s.b.length) : ∃ bb oo, A = some ⟨bb, oo, none⟩ ∧ W.cell? ⟨bb, oo + k, none⟩ = some (.int .u8 ((s.b[k].toNat : Nat) : Int)) := by
  obtain ⟨g, o, e, hc, _⟩ := hG.at_ (by have := hG.cap; omega)
  exact ⟨g, o, e, hc k _ (bvs_get s.b k hk)⟩

set_option maxHeartbeats 2000000 in
theorem ref_wait (h : Ln true w g F s) (hm : s.lit = none) (hn : ¬ nl s.b < s.b.length) : Calls Try.prog 15 #[.pointer (some ⟨g, 0, none⟩)] w (Spoke true w g F (nextS s) (nextR s)) := by
  have e1 : nextS s = if 301 < s.b.length then ⟨[], true, none⟩ else s := by unfold nextS; rw [hm]; simp [hn]
  have e2 : nextR s = none := by unfold nextR; rw [hm]; simp [hn]
  rw [e1, e2]
  obtain ⟨st, hst⟩ : ∃ st, st = if 301 < s.b.length then ⟨[], true, none⟩ else s := ⟨_, rfl⟩
  rw [← hst]
  have HST := Lib.hid hst
  have h0 := Lib.hid h
  obtain ⟨A, c, k, hb, hG, hk, rfl, hg, hl⟩ := h
  obtain ⟨w1, hw1⟩ : ∃ w1, w1 = w.alloc (.cells #[.int .i64 0, .slice none 0 0] 36) := ⟨_, rfl⟩
  have O1 : Only [] w w1 := by rw [hw1]; exact (Only.refl [] w).alloc _
  have c0 : w1.cell? ⟨g, 0, none⟩ = some (.slice A s.b.length c) := O1.cellSome (by rw [hb.cell]; rfl) (fun hm => nomatch hm)
  have c1 : w1.cell? ⟨g, 1, none⟩ = some (.bool false) := O1.cellSome (by rw [hb.cell, hm]; rfl) (fun hm => nomatch hm)
  have c3 : w1.cell? ⟨g, 3, none⟩ = some (.bool s.drop) := O1.cellSome (by rw [hb.cell]; rfl) (fun hm => nomatch hm)
  have f0 := (hb.keep O1).free 0
  have f3 := (hb.keep O1).free 3
  have HC := Lib.hid (byte_at (hG.keep O1))
  have HN := Lib.hid (fun k (hk : k < s.b.length) => mem_of_nl hn _ (List.getElem_mem hk))
  have hgl := hb.lt
  have HB := Lib.hid hb
  have hle : (s.b.length : Int) ≤ 4096 := by omega
  rw [hw1] at c0 c1 c3 f0 f3
  clear hn hG hk O1 e1 e2 hb hst
  have HBIG : Hid ((301 : Int) < (s.b.length : Int) ∨ (s.b.length : Int) ≤ 301) := by show _ ∨ _; omega
  go_enter Try.func15, Try.ntmps15
  go_wp2
  go_loop [5] (fun i => ∃ k : Nat, k ≤ s.b.length ∧ i = .int .i64 k) (fun i => s.b.length - (intOf i).toNat)
  case atStart => exact ⟨0, Nat.zero_le _, rfl⟩
  case round =>
    obtain ⟨k, hk, rfl⟩ := hrel
    by_cases hlt : k < s.b.length
    · obtain ⟨bb, oo, rfl, hx⟩ := HC.out k hlt
      have hne : ((s.b[k].toNat : Nat) : Int) ≠ 10 := by
        have := HN.out k hlt
        intro e
        exact this (UInt8.toNat_inj.1 (by show _ = 10; omega))
      rw [hw1] at hx
      generalize hy : ((s.b[k].toNat : Nat) : Int) = y at hx hne
      have hlt' : (k : Int) < (s.b.length : Int) := by omega
      clear hy
      go_wp2
      go_roundw
      case rel => exact ⟨k + 1, by omega, by go_num⟩
      case measure => simp [intOf]; omega
    · obtain rfl : k = s.b.length := by omega
      have hR := Bk.new w 36 #[.int .i64 0, .slice none 0 0]
      have r0 : (w.alloc (.cells #[.int .i64 0, .slice none 0 0] 36)).cell? ⟨w.heap.size, 0, none⟩ = some (.int .i64 0) := by rw [hR.cell]; rfl
      have r1 : (w.alloc (.cells #[.int .i64 0, .slice none 0 0] 36)).cell? ⟨w.heap.size, 1, none⟩ = some (.slice none 0 0) := by rw [hR.cell]; rfl
      have t0 := hR.free 0
      have t1 := hR.free 1
      have hgw : ¬ w.heap.size = g := by omega
      have hgw' : ¬ g = w.heap.size := by omega
      rw [← hw1] at c0 c1 c3 f0 f3 r0 r1 t0 t1 hR ⊢
      have HW := Lib.hid hw1
      clear hw1
      rcases HBIG.out with hbig | hbig
      · go_wp2
        have hlt3 : 301 < s.b.length := by omega
        rw [HST.out, if_pos hlt3]
        have O1 : Only [] w w1 := by rw [HW.out]; exact (Only.refl [] w).alloc _
        have hb0 := HB.out.keep O1
        rw [show s.lit.isSome = false by rw [hm]; rfl] at hb0
        have R2 := (hR.far (p := ⟨g, 0, none⟩) hgw (.slice none 0 0)).far (p := ⟨g, 3, none⟩) hgw (.bool true)
        exact next_ret (x := none) (by kernel_rfl) _ none _ 0 rfl rfl rfl rfl R2 Sl.none_ (fun k hk => nomatch hk) ⟨none, 0, _, (hb0.set 0 (.slice none 0 0)).set 3 (.bool true), Gro.nil _, (fun m hm => nomatch hm), rfl, (by simp), (by simp)⟩ ((((O1.mono (fun _ hx => nomatch hx)).setCell (.inl (by simp)) _).setCell (.inl (by simp)) _)) (fun k hk => nomatch hk) hgl h0.out.flt
      · go_wp2
        have hlt3 : ¬ 301 < s.b.length := by omega
        rw [HST.out, if_neg hlt3]
        have O1 : Only [] w w1 := by rw [HW.out]; exact (Only.refl [] w).alloc _
        exact next_ret (x := none) (by kernel_rfl) _ none _ 0 rfl rfl rfl rfl hR Sl.none_ (fun k hk => nomatch hk) (h0.out.keep O1) (O1.mono (fun _ hx => nomatch hx)) (fun k hk => hk) hgl h0.out.flt

/-- The line is taken out. -/
theorem ref_cutout {w1 : World} {A A' : Option Addr} {n c n' c' : Nat} {b' : List UInt8} {d : Bool} {k : Int} (hb : Bk w1 g (ltype true) (lcells true (.slice A n c) d false k)) (hG : Gro w1 A' n' c' (bvs b')) (hF : blks A' = F) (hg : g ∉ F) (hn : n' ≤ 4096) :
    Ln true ((w1.setCell ⟨g, 0, none⟩ (.slice A' n' c')).setCell ⟨g, 3, none⟩ (.bool false)) g F ⟨b', false, none⟩ := by
  subst hF
  have hl : b'.length = n' := by simpa using hG.len
  subst hl
  have hO : Only [g] w1 ((w1.setCell ⟨g, 0, none⟩ (.slice A' b'.length c')).setCell ⟨g, 3, none⟩ (.bool false)) := ((Only.refl _ _).setCell (.inl (by simp)) _).setCell (.inl (by simp)) _
  exact ⟨A', c', k, (hb.set 0 (.slice A' b'.length c')).set 3 (.bool false), hG.only hO (fun x hx hm => by simp at hm; subst hm; exact hg hx), (fun m hm => nomatch hm), rfl, hg, hn⟩

/-- What 'tr' makes of the line, by the byte that stands last. -/
theorem tr_line (hn : nl s.b < s.b.length) : (nl s.b = 0 ∧ (tr (s.b.take (nl s.b))).length = 0) ∨ (∃ i, ∃ hi : i < s.b.length, nl s.b = i + 1 ∧ s.b[i]'hi = 13 ∧ (tr (s.b.take (nl s.b))).length = i) ∨ (∃ i, ∃ hi : i < s.b.length, nl s.b = i + 1 ∧ s.b[i]'hi ≠ 13 ∧ (tr (s.b.take (nl s.b))).length = i + 1) := by
  have hl : (s.b.take (nl s.b)).length = nl s.b := by rw [List.length_take]; omega
  cases hj : nl s.b with
  | zero => exact .inl ⟨rfl, by rfl⟩
  | succ i =>
    rw [hj] at hl hn
    have e : (s.b.take (i + 1))[(s.b.take (i + 1)).length - 1]'(by omega) = s.b[i]'(by omega) := by
      rw [List.getElem_take]
      congr 1
      omega
    by_cases h : s.b[i]'(by omega) = 13
    · exact .inr (.inl ⟨i, by omega, rfl, h, by rw [tr_some (by omega) (by rw [e]; exact h), hl]; omega⟩)
    · exact .inr (.inr ⟨i, by omega, rfl, h, by rw [tr_none (by omega) (by rw [e]; exact h), hl]⟩)
end
end Go.Proofs.Ytiekhgignmbaeaa
