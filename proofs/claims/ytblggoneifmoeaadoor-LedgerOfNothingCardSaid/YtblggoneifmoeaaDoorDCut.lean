/-
  disk's cut: a file keeps its first n bytes.
-/
import Derived.Test.YtblggoneifmoeaaDoorDClone
import Derived.Test.YtblggoneifmoeaaDoorDLeaf
import Derived.RegionTactic
import Derived.ChangeAlike
namespace Go.Proofs.YtblggoneifmoeaaDoor
open Go.RowKit Go.Maps

section
variable {w : World} {d room u lf : Nat} {fz : Bool} {mb : Option Nat} {p q : List Fc}

theorem Dk.drew {cs : List Fc} (h : Dk w d room u fz lf mb cs) : Dk w.drew d room u fz lf mb cs := h.keep ((Only.refl _ _).drew)

set_option maxRecDepth 100000 in
theorem cut_any {c : Fc} (h : Dk w d room u fz lf mb (p ++ c :: q)) (n : Nat) (hn : n ≤ c.f.data.length) (hu : c.f.data.length ≤ u + n) :
    Calls Tryd.prog 31 #[.pointer (some ⟨d, 0, none⟩), .pointer (some ⟨c.blk, 0, none⟩), .int .i64 n] w fun e w' => e = .returned (.tuple #[]) ∧
      ∃ A' cap', Dk w' d room (u + n - c.f.data.length) fz lf mb (p ++ { f := cutF n c.f, blk := c.blk, A := A', cap := cap' } :: q) ∧ Only (d :: c.blk :: blks c.A) w w' ∧ ∀ x ∈ blks A', x ∈ blks c.A ∨ w.heap.size ≤ x := by
  obtain ⟨⟨nm, data, la⟩, b, A, cap⟩ := c
  dsimp only at *
  have hm : ∀ x : Fc, x ∈ p ++ x :: q := fun x => by simp
  have hdb : b ≠ d := h.d_blk (hm _)
  have hbig := h.big _ (hm _)
  have hla := h.lasts (hm _)
  have hb9 := h.u'
  have f1 := h.bk.free 1
  obtain ⟨_, c1, _⟩ := h.cell
  obtain ⟨e0, _⟩ := h.fcell (hm _)
  dsimp only at e0 hbig hla
  obtain ⟨a, ha⟩ : ∃ a, a = data.length := ⟨_, rfl⟩
  rw [← ha] at e0 hbig hla hn hu ⊢
  have HA := Lib.hid ha
  clear ha
  obtain ⟨u2, hu2⟩ : ∃ u2 : Nat, u2 = u + n - a := ⟨_, rfl⟩
  rw [← hu2]
  have hz2 : u2 ≤ 1073741824 := by omega
  have HU : Hid ((u : Int) - ((a : Int) - (n : Int)) = (u2 : Int)) := by show _ = _; omega
  have h1 := (h.setUsed u2 hz2).drew
  have O1 : Only [d] w (w.setCell ⟨d, 1, none⟩ (.int .i64 u2)).drew := ((Only.refl _ _).setCell (.inl (by simp)) _).drew
  have hbz := (h.file _ (hm _)).1.lt
  dsimp only at hbz
  have HH := Lib.hid h
  clear hu2 h
  go_enter Tryd.func31, Tryd.ntmps31
  go_wp2
  go_region
  rw [HU.out]
  generalize (w.setCell ⟨d, 1, none⟩ (.int .i64 u2)).drew = w1 at h1 O1 ⊢
  clear e0 c1 f1 HU
  -- the lasting ones, and the row cut off
  obtain ⟨e0, e1⟩ := h1.fcell (hm _)
  have g0 := (h1.file _ (hm _)).1.free 0
  have g1 := (h1.file _ (hm _)).1.free 1
  have hown := (h1.file _ (hm _)).2
  dsimp only at e0 e1 g0 g1 hown
  rw [← HA.out] at e0 hown
  have hcap := hown.cap
  have hncap : n ≤ cap := by omega
  obtain ⟨l, hl⟩ : ∃ l, l = data.take n := ⟨_, rfl⟩
  have hln : l.length = n := by rw [hl, List.length_take, ← HA.out]; omega
  obtain ⟨la2, hla2⟩ : ∃ la2, la2 = min la n := ⟨_, rfl⟩
  have hml : min (la : Int) (n : Int) = (la2 : Int) := by omega
  have h2 := h1.setLasts la2 (by dsimp only; have := HA.out; omega)
  dsimp only at h2
  have V2 : Own (w1.setCell ⟨b, 1, none⟩ (.int .i64 la2)) 5 A l.length cap (bvs l) := by
    have h3 := (h2.file _ (hm _)).2.pre (k := n) (by dsimp only; have := HA.out; omega)
    rw [bvs_take, ← hl] at h3
    rw [hln]
    exact h3
  have h3 := h2.setData (Only.refl _ _) V2 (fun x hx => .inl hx) (by dsimp only; omega) (by omega)
  have HLA := Lib.hid hla2
  clear hla2
  have HV3 := (h3.file _ (hm _)).2
  dsimp only at h3 HV3
  have O3 : Only [d, b] w ((w1.setCell ⟨b, 1, none⟩ (.int .i64 la2)).setCell ⟨b, 0, none⟩ (.slice A l.length cap)) := ((O1.mono (fun x hx => .inl (by simp at hx; simp [hx]))).setCell (.inl (by simp)) _).setCell (.inl (by simp)) _
  rw [hln] at h3 O3 HV3
  have HL := Lib.hid hl
  have HN := Lib.hid hln
  have HO3 := O3
  clear hl hln V2 h2 h1 O1
  have HC := Lib.hid (clone_any A n cap l _ HV3.sl (by omega))
  clear hown HV3
  go_wp2_with (go_at_call 29; refine HC.out.mono ?_; rintro e w4 ⟨A4, c4, rfl, V4, O4, B4⟩; have h4 := h3.keep O4; have e4 := (h4.fcell (hm _)).1; have g4 := (h4.file _ (hm _)).1.free 0; dsimp only at e4 g4)
  · go_end0
    refine ⟨rfl, A4, c4, ?_, ?_, fun x hx => ?_⟩
    · have h5 := h3.setData (O4.mono (fun _ hx => by cases hx)) V4 (fun x hx => .inr (B4 x hx)) (by dsimp only; rw [HN.out, HLA.out]; omega) (by rw [HN.out]; omega)
      dsimp only at h5
      unfold cutF
      dsimp only
      rw [← HL.out, ← HLA.out]
      exact h5
    · exact ((O3.then O4).setCell (.inl (by simp)) _).mono (fun x hx => .inl (by simp at hx; rcases hx with rfl | rfl <;> simp))
    · have := B4 x hx
      have hz := O3.size
      exact .inr (by omega)
  · go_end0
    refine ⟨rfl, A, cap, ?_, ?_, fun x hx => .inl hx⟩
    · unfold cutF
      dsimp only
      rw [← HL.out, ← HLA.out]
      exact h3
    · exact O3.mono (fun x hx => .inl (by simp at hx; rcases hx with rfl | rfl <;> simp))
end
end Go.Proofs.YtblggoneifmoeaaDoor
