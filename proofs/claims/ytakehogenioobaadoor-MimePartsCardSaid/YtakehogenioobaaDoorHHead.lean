/-
  Head, Body, Lines; the document's End, Head, Body, Top.
-/
import Derived.Test.YtakehogenioobaaDoorHLen
namespace Go.Proofs.YtakehogenioobaaDoor
open Go.RowKit Go.Instr

theorem hd_le_n {w : World} {A : Option Addr} {n c : Nat} {l : List UInt8} (hs : Bt w A n c l) : hd l ≤ n := by
  have h1 := hd_le l
  have h2 := hs.len
  omega
section
variable {w : World} {A : Option Addr} {n c : Nat} {l : List UInt8}
theorem Head_any (hs : Bt w A n c l) (hbig : n ≤ 1048576) (hA : ∀ x ∈ blks A, x < w.heap.size) : Calls Tryd.prog 16 #[.slice A n c] w (Fresh w (l.take (hd l))) := by
  have hle := hd_le_n hs
  have hcap := hs.cap
  have c1 := headLen_any hs hbig hA
  obtain ⟨H, hH⟩ : ∃ H, hd l = H := ⟨_, rfl⟩
  rw [hH] at c1 hle ⊢
  have hp := hs.pre hle
  have hpl := hp.len
  obtain ⟨p, hp0⟩ : ∃ p, l.take H = p := ⟨_, rfl⟩
  rw [hp0] at hp hpl ⊢
  have hle1 : (H : Int) ≤ (c : Int) := by omega
  have HPL := Lib.hid hpl
  clear hpl hH hp0
  go_enter Tryd.func16, Tryd.ntmps16
  go_wp2_with first
    | (go_at_call 28; with_reducible refine c1.mono ?_; rintro e w1 ⟨rfl, hO1⟩)
    | (go_at_call 17; with_reducible refine (clone_any _ (hp.keep hO1).sl (by omega)).mono ?_; rintro e w2 ⟨A2, c2, rfl, hw2, hO2, hb2⟩)
  go_ret
  refine ⟨A2, c2, by rw [HPL.out]; rfl, by rw [HPL.out]; exact hw2, hO1.then hO2, fun k hk => Nat.le_trans hO1.size (hb2 k hk)⟩

theorem Body_any (hs : Bt w A n c l) (hbig : n ≤ 1048576) (hA : ∀ x ∈ blks A, x < w.heap.size) : Calls Tryd.prog 18 #[.slice A n c] w (Fresh w (l.drop (hd l))) := by
  have hle := hd_le_n hs
  have hcap := hs.cap
  have c1 := headLen_any hs hbig hA
  obtain ⟨H, hH⟩ : ∃ H, hd l = H := ⟨_, rfl⟩
  rw [hH] at c1 hle ⊢
  have hp := hs.cut hle
  have hpl := hp.len
  obtain ⟨p, hp0⟩ : ∃ p, l.drop H = p := ⟨_, rfl⟩
  rw [hp0] at hp hpl ⊢
  have hle1 : (H : Int) ≤ (n : Int) := by omega
  have hle2 : (n : Int) ≤ (c : Int) := by omega
  have HPL := Lib.hid hpl
  clear hpl hH hp0
  have hnil := hs.nil
  clear hs hA
  by_cases hcH : c = H
  · rw [if_pos hcH] at hp
    have h0 : c - H = 0 := by omega
    have h1 : n - H = 0 := by omega
    rw [h0, h1] at hp
    rw [h1] at HPL
    obtain rfl : n = c := by omega
    subst hcH
    clear h0 h1
    go_enter Tryd.func18, Tryd.ntmps18
    go_wp2_with first
      | (go_at_call 28; with_reducible refine c1.mono ?_; rintro e w1 ⟨rfl, hO1⟩)
      | (go_at_call 17; with_reducible refine (clone_any _ (hp.keep hO1).sl (by omega)).mono ?_; rintro e w2 ⟨A2, c2, rfl, hw2, hO2, hb2⟩)
    go_ret
    refine ⟨A2, c2, by rw [HPL.out]; rfl, by rw [HPL.out]; exact hw2, hO1.then hO2, fun k hk => Nat.le_trans hO1.size (hb2 k hk)⟩
  · rw [if_neg hcH] at hp
    cases A with
    | none => have := hnil rfl; omega
    | some ad =>
      have hp2 : Bt w (some (ad.add H)) (n - H) (c - H) p := hp
      clear hp hnil
      go_enter Tryd.func18, Tryd.ntmps18
      go_wp2_with first
        | (go_at_call 28; with_reducible refine c1.mono ?_; rintro e w1 ⟨rfl, hO1⟩)
        | (go_at_call 17; with_reducible refine (clone_any _ (hp2.keep hO1).sl (by omega)).mono ?_; rintro e w2 ⟨A2, c2, rfl, hw2, hO2, hb2⟩)
      go_ret
      refine ⟨A2, c2, by rw [HPL.out]; rfl, by rw [HPL.out]; exact hw2, hO1.then hO2, fun k hk => Nat.le_trans hO1.size (hb2 k hk)⟩
end
end Go.Proofs.YtakehogenioobaaDoor
