/-
  The reference's Reader.Bytes; octet.Reader.Nums into three places, the middle one nil.
-/
import Derived.Test.YthaodlegpjedoaaRefNum
namespace Go.Proofs.Ythaodlegpjedoaa
open Go.RowKit

theorem row_of_bad {bad : Bool} {l : List UInt8} (h : takeBad bad l = true) : rowTook bad l = [] ∧ rowBad bad l = true ∧ rowRest bad l = [] := by
  have hb : rawBad (takeBad bad l) (takeRest bad l) (takeV bad l) = true := by unfold rawBad; rw [h]; rfl
  obtain ⟨g1, g2⟩ := raw_of_bad hb
  exact ⟨g1, hb, g2⟩

set_option maxRecDepth 100000 in
theorem refRBytes_any {w : World} {g kb : Nat} {A : Option Addr} {c : Nat} {bad : Bool} {l : List UInt8} (h : Rr w g kb A c bad l) :
    Calls Try.prog 52 #[.pointer (some ⟨g, 0, none⟩)] w (TookRowR w g kb (rowTook bad l) (rowBad bad l) (rowRest bad l)) := by
  have HN := Lib.hid (refRNum_any h)
  cases hb : takeBad bad l with
  | true =>
    have HZ := Lib.hid (row_of_bad hb)
    rw [hb] at HN
    clear hb
    go_enter Try.func52, Try.ntmps52
    go_wp2_with fail
    refine HN.out.mono ?_
    rintro e w1 ⟨rfl, A1, c1, R1, O1⟩
    have k1 := R1.cell1
    have hl := R1.err rfl
    rw [hl] at R1
    go_wp2_with fail
    go_ret
    rw [HZ.out.1, HZ.out.2.1, HZ.out.2.2]
    exact ⟨none, 0, A1, c1, rfl, Own.nil _ _, fun k hk => (by cases hk), R1, O1⟩
  | false =>
    have HB := Lib.hid hb
    rw [hb] at HN
    have HRw := Lib.hid (fun (W : World) (A1 : Option Addr) (c1 : Nat) (hW : Rr W g kb A1 c1 false (takeRest bad l)) => refRaw_any (takeV bad l : Int) hW)
    clear hb
    go_enter Try.func52, Try.ntmps52
    go_wp2_with fail
    refine HN.out.mono ?_
    rintro e w1 ⟨rfl, A1, c1, R1, O1⟩
    have k1 := R1.cell1
    go_wp2_with fail
    refine (HRw.out w1 A1 c1 R1).mono ?_
    rintro e w2 ⟨P, cp, A2, c2, rfl, V2, B2, R2, O2⟩
    go_wp2_with fail
    go_ret
    unfold rowTook rowBad rowRest
    rw [HB.out]
    exact ⟨P, cp, A2, c2, rfl, V2, fun k hk => Nat.le_trans O1.size (B2 k hk), R2, O1.trans O2 (fun x hx => .inl hx)⟩

/-- What k numbers, taken one by one, leave: whether it erred, what is left, what the first and the third place hold. -/
def NumsAt (bad : Bool) (l : List UInt8) (a0 c0 : Int) : Nat → Bool × List UInt8 × Int × Int
  | 0 => (bad, l, a0, c0)
  | 1 => (takeBad bad l, takeRest bad l, (takeV bad l : Int), c0)
  | 2 => (takeBad (takeBad bad l) (takeRest bad l), takeRest (takeBad bad l) (takeRest bad l), (takeV bad l : Int), c0)
  | _ => (takeBad (takeBad (takeBad bad l) (takeRest bad l)) (takeRest (takeBad bad l) (takeRest bad l)), takeRest (takeBad (takeBad bad l) (takeRest bad l)) (takeRest (takeBad bad l) (takeRest bad l)), (takeV bad l : Int),
      (takeV (takeBad (takeBad bad l) (takeRest bad l)) (takeRest (takeBad bad l) (takeRest bad l)) : Int))

/-- The relation of its loop. -/
def NumsRel (w : World) (g kb ga gc : Nat) (bad : Bool) (l : List UInt8) (a0 c0 : Int) (k : Nat) (wr : World) : Prop :=
  ∃ (b' : Bool) (l' : List UInt8) (x y : Int) (A' : Option Addr) (c' : Nat), NumsAt bad l a0 c0 k = (b', l', x, y) ∧ Rd wr g kb A' c' b' l' ∧ Bk wr ga 3 #[.int .i64 x] ∧ Bk wr gc 3 #[.int .i64 y] ∧ Only [g, ga, gc] w wr

set_option maxRecDepth 100000 in
set_option maxHeartbeats 2000000 in
theorem rnums3_any {w : World} {g kb ga gc s : Nat} {A : Option Addr} {c : Nat} {bad : Bool} {l : List UInt8} (a0 c0 : Int) (h : Rd w g kb A c bad l) (ha : Bk w ga 3 #[.int .i64 a0]) (hc : Bk w gc 3 #[.int .i64 c0])
    (hs : Bk w s 81 #[.pointer (some ⟨ga, 0, none⟩), .pointer none, .pointer (some ⟨gc, 0, none⟩)]) (hac : ga ≠ gc) (hka : kb ≠ ga) (hkc : kb ≠ gc) :
    Calls Try.prog 47 #[.pointer (some ⟨g, 0, none⟩), .slice (some ⟨s, 0, none⟩) 3 3] w fun e w' => e = .returned (.tuple #[]) ∧ NumsRel w g kb ga gc bad l a0 c0 3 w' := by
  have hsg : s ≠ g := hs.ne h.bk (by decide)
  have hsa : s ≠ ga := hs.ne ha (by decide)
  have hsc : s ≠ gc := hs.ne hc (by decide)
  have hga : ga ≠ g := ha.ne h.bk (by decide)
  have hgc : gc ≠ g := hc.ne h.bk (by decide)
  go_enter Try.func47, Try.ntmps47
  go_wp2
  go_loopw [9] (fun i wr => ∃ k : Nat, k ≤ 3 ∧ i = .int .i64 k ∧ NumsRel w g kb ga gc bad l a0 c0 k wr) (fun i _ => 3 - (intOf i).toNat)
  case atStart => exact ⟨0, Nat.zero_le _, rfl, bad, l, a0, c0, A, c, rfl, h, ha, hc, Only.refl _ _⟩
  case round =>
    obtain ⟨k, hk, rfl, b', l', x, y, A', c', hN, HR, HA, HC, HO⟩ := hrel
    have HS := hs.only HO (by simp; omega)
    have s0 : wr.cell? ⟨s, 0, none⟩ = some (.pointer (some ⟨ga, 0, none⟩)) := by rw [HS.cell]; rfl
    have s1 : wr.cell? ⟨s, 1, none⟩ = some (.pointer none) := by rw [HS.cell]; rfl
    have s2 : wr.cell? ⟨s, 2, none⟩ = some (.pointer (some ⟨gc, 0, none⟩)) := by rw [HS.cell]; rfl
    have HNm := Lib.hid (num_any HR)
    have HNN := Lib.hid hN
    clear hN
    obtain rfl | rfl | rfl | rfl : k = 0 ∨ k = 1 ∨ k = 2 ∨ k = 3 := by omega
    · have hv := HNN.out
      simp only [NumsAt, Prod.mk.injEq] at hv
      obtain ⟨rfl, rfl, rfl, rfl⟩ := hv
      go_wp2_with fail
      refine HNm.out.mono ?_
      rintro e w1 ⟨rfl, A1, c1, R1, O1⟩
      have HA1 := HA.only O1 (by simpa using hga)
      have HC1 := HC.only O1 (by simpa using hgc)
      have ca := HA1.cell 0
      have fa := HA1.free 0
      go_wp2_with fail
      go_roundw
      case rel =>
        refine ⟨1, by omega, by go_num, _, _, _, _, A1, c1, rfl, R1.only (rs := [ga]) ((Only.refl _ _).setCell (.inl (by simp)) _) (by simpa using hga.symm) (by simpa using hka), by simpa using HA1.set 0 _, HC1.far (by simpa using hac.symm) _, (HO.trans O1 (fun x hx => .inl (by simp at hx; simp [hx]))).setCell (.inl (by simp)) _⟩
      case measure => simp [intOf]
    · have hv := HNN.out
      simp only [NumsAt, Prod.mk.injEq] at hv
      obtain ⟨rfl, rfl, rfl, rfl⟩ := hv
      go_wp2_with fail
      refine HNm.out.mono ?_
      rintro e w1 ⟨rfl, A1, c1, R1, O1⟩
      have HA1 := HA.only O1 (by simpa using hga)
      have HC1 := HC.only O1 (by simpa using hgc)
      go_wp2_with fail
      go_roundw
      case rel => exact ⟨2, by omega, by go_num, _, _, _, _, A1, c1, rfl, R1, HA1, HC1, HO.trans O1 (fun x hx => .inl (by simp at hx; simp [hx]))⟩
      case measure => simp [intOf]
    · have hv := HNN.out
      simp only [NumsAt, Prod.mk.injEq] at hv
      obtain ⟨rfl, rfl, rfl, rfl⟩ := hv
      go_wp2_with fail
      refine HNm.out.mono ?_
      rintro e w1 ⟨rfl, A1, c1, R1, O1⟩
      have HA1 := HA.only O1 (by simpa using hga)
      have HC1 := HC.only O1 (by simpa using hgc)
      have cc := HC1.cell 0
      have fc := HC1.free 0
      go_wp2_with fail
      go_roundw
      case rel =>
        refine ⟨3, by omega, by go_num, _, _, _, _, A1, c1, rfl, R1.only (rs := [gc]) ((Only.refl _ _).setCell (.inl (by simp)) _) (by simpa using hgc.symm) (by simpa using hkc), HA1.far (by simpa using hac) _, by simpa using HC1.set 0 _, (HO.trans O1 (fun x hx => .inl (by simp at hx; simp [hx]))).setCell (.inl (by simp)) _⟩
      case measure => simp [intOf]
    · go_wp2_with fail
      go_end0
      exact ⟨rfl, b', l', x, y, A', c', HNN.out, HR, HA, HC, HO⟩
end Go.Proofs.Ythaodlegpjedoaa
