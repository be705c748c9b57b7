/-
  box: what every law asks besides: an UID is never given twice.
-/
import Derived.Test.YthaodlegpjedoaaVExp
namespace Go.Proofs.Ythaodlegpjedoaa
open Go.RowKit Go.Instr

/-- A class that all blocks are of. -/
def AnyB (_ : Nat) : Prop := True
def km (u : Int) : Mg := ⟨u, 0, 5, []⟩
theorem k_add {S : Nat → Prop} (w : World) (hS : ∀ y, w.heap.size ≤ y → S y) (x u : Int) (l : List Mg) (n : Nat) (A : Option Addr) (c : Nat) (hl : l.length = n) (hn : n < 24) (hx : 0 ≤ x ∧ x < 1048576) (hu : x = u) (hb : ∀ m ∈ l, m.body.length ≤ 1000000) (h : Ms S w A n l) :
    Calls Try.prog 31 #[.agg #[.string ⟨#[97]⟩, .int .i64 1, .int .i64 x, .slice A n c], .int .i64 0, .int .i64 5, .slice none 0 0] w fun e w' =>
      ∃ A' c', e = .returned (.tuple #[.agg #[.string ⟨#[97]⟩, .int .i64 1, .int .i64 (x + 1), .slice A' (n + 1) c'], .int .i64 u, .int .i64 0]) ∧ Ms S w' A' (n + 1) (l ++ [km u]) ∧ Only [] w w' := by
  subst hl hu
  have he : addE ⟨[97], 1, x, l⟩ 0 5 0 = 0 := by
    unfold addE
    rw [if_neg (by decide), if_neg (by omega), if_neg (by show ¬ 24 ≤ l.length; omega), if_neg (by show ¬ 1048576 ≤ x; omega)]
  have hA := Add_any (S := S) (w := w) ⟨[97], 1, x, l⟩ (A := A) (c := c) h (by show l.length ≤ _; omega) hb hx.1 hS 0 5 none 0 0 [] Sl.none_
  refine hA.mono fun e w' hh => ?_
  obtain ⟨A', c', h1, h2, h3⟩ := hh
  have e1 : addB ⟨[97], 1, x, l⟩ 0 5 [] = ⟨[97], 1, x + 1, l ++ [km x]⟩ := by unfold addB; rw [List.length_nil, he, if_pos rfl]; rfl
  have e2 : addU ⟨[97], 1, x, l⟩ 0 5 ([] : List UInt8).length = x := by unfold addU; rw [List.length_nil, he, if_pos rfl]
  rw [e1] at h1 h2
  rw [e2, List.length_nil, he] at h1
  have hl1 : (l ++ [km x]).length = l.length + 1 := by simp
  refine ⟨A', c', ?_, ?_, h3⟩
  · rw [h1, bxv_eq hl1]
  · have h2' : Ms S w' A' (l ++ [km x]).length (l ++ [km x]) := h2
    rwa [hl1] at h2'
theorem k_exp {S : Nat → Prop} (w : World) (hS : ∀ y, w.heap.size ≤ y → S y) (A : Option Addr) (c : Nat) (h : Ms S w A 2 [km 1, km 2]) (U : Option Addr) (hU : Sl w U 1 (ivs [2])) :
    Calls Try.prog 28 #[.agg #[.string ⟨#[97]⟩, .int .i64 1, .int .i64 3, .slice A 2 c], .slice U 1 1] w fun e w' =>
      ∃ A' c' Ag cg, e = .returned (.tuple #[.agg #[.string ⟨#[97]⟩, .int .i64 1, .int .i64 3, .slice A' 1 c'], .slice Ag 1 cg]) ∧ Ms S w' A' 1 [km 1] ∧ Only [] w w' := by
  have hE := Expunge_any (S := S) (w := w) ⟨[97], 1, 3, [km 1, km 2]⟩ (A := A) (c := c) h (by decide) (by intro m hm; simp at hm; rcases hm with rfl | rfl <;> exact Nat.zero_le _) hS U 1 1 [2] hU (by omega)
  refine hE.mono fun e w' hh => ?_
  obtain ⟨A', c', Ag, cg, h1, h2, _, _, h3⟩ := hh
  have e1 : expB ⟨[97], 1, 3, [km 1, km 2]⟩ [2] = ⟨[97], 1, 3, [km 1]⟩ := by decide
  have e2 : goneL [2] [km 1, km 2] = [2] := by decide
  rw [e1] at h1 h2
  simp only [e2] at h1
  exact ⟨A', c', Ag, cg, h1, h2, h3⟩
set_option maxRecDepth 100000 in
set_option maxHeartbeats 1000000 in
theorem known_any (w : World) : Calls Try.prog 18 #[] w fun e w' => e = .returned (.bool true) ∧ Only [] w w' := by
  have cN : Calls Try.prog 13 #[.string ⟨#[97]⟩, .int .i64 1] w fun e w' => e = .returned (.agg #[.string ⟨#[97]⟩, .int .i64 1, .int .i64 1, .slice none 0 0]) ∧ Only [] w w' := New_any [97] 1 w
  have HK1 := Lib.hid (fun W => k_add (S := AnyB) W (fun _ _ => trivial) 1 1 [] 0 none 0 rfl (by omega) (by omega) rfl (fun _ h => nomatch h) (Ms.nil _ _ _))
  have HK2 := Lib.hid (fun (g : Nat) W hW A c h => k_add (S := fun y => y ≠ g) W hW 2 2 [km 1] 1 A c rfl (by omega) (by omega) rfl (by intro m hm; simp at hm; subst hm; exact Nat.zero_le _) h)
  have HK3 := Lib.hid (fun (g : Nat) W hW A c h U hU => k_exp (S := fun y => y ≠ g) W hW A c h U hU)
  have HK4 := Lib.hid (fun (g : Nat) W hW A c h => k_add (S := fun y => y ≠ g) W hW 3 3 [km 1] 1 A c rfl (by omega) (by omega) rfl (by intro m hm; simp at hm; subst hm; exact Nat.zero_le _) h)
  go_enter Try.func18, Try.ntmps18
  go_wp2_with (go_at_call 13; with_reducible refine cN.mono ?_; rintro e w1 ⟨rfl, O1⟩)
  refine (HK1.out w1).mono ?_
  rintro e w2 ⟨A2, c2, rfl, M2, O2⟩
  have M2' := Lib.hid (M2.lt.mono (S' := fun y => y ≠ w2.heap.size) (fun y hy => by omega))
  clear M2 HK1 cN
  go_wp2_with fail
  have hg : w2.heap.size < (w2.alloc (.cells #[.string ⟨#[97]⟩, .int .i64 1, .int .i64 2, .slice A2 1 c2] 26)).heap.size := by simp
  refine (HK2.out w2.heap.size _ (fun y hy => by omega) A2 c2 (M2'.out.keep ((Only.refl [] _).alloc _))).mono ?_
  rintro e w3 ⟨A3, c3, rfl, M3, O3⟩
  have hQ3 := Lib.hid (((O1.then O2).alloc (.cells #[.string ⟨#[97]⟩, .int .i64 1, .int .i64 2, .slice A2 1 c2] 26)).then O3)
  have hw2 := Lib.hid (O1.then O2).size
  have B3 := bx_cells O3
  clear M2' HK2 O1 O2 O3
  have hg3 : w2.heap.size < w3.heap.size := B3.lt
  generalize w2.heap.size = g at *
  obtain ⟨k0, k1, k2, k3⟩ := bk_four B3
  have f0 := B3.free 0
  have f1 := B3.free 1
  have f2 := B3.free 2
  have f3 := B3.free 3
  go_wp2_with fail
  have B4 := bk_store B3 (.string ⟨#[97]⟩) (.int .i64 1) (.int .i64 3) (.slice A3 2 c3)
  have M4 := M3.store (fun h => h rfl) (.string ⟨#[97]⟩) (.int .i64 1) (.int .i64 3) (.slice A3 2 c3)
  have hQ4 := Lib.hid (only_store hQ3.out (.inr hw2.out) (.string ⟨#[97]⟩) (.int .i64 1) (.int .i64 3) (.slice A3 2 c3))
  have hz4 : ((((w3.setCell ⟨g, 0, none⟩ (.string ⟨#[97]⟩)).setCell ⟨g, 1, none⟩ (.int .i64 1)).setCell ⟨g, 2, none⟩ (.int .i64 3)).setCell ⟨g, 3, none⟩ (.slice A3 2 c3)).heap.size = w3.heap.size := by simp [World.setCell]
  generalize ((((w3.setCell ⟨g, 0, none⟩ (.string ⟨#[97]⟩)).setCell ⟨g, 1, none⟩ (.int .i64 1)).setCell ⟨g, 2, none⟩ (.int .i64 3)).setCell ⟨g, 3, none⟩ (.slice A3 2 c3)) = w4 at *
  rw [← hz4] at hg3 ⊢
  clear k0 k1 k2 k3 f0 f1 f2 f3 hQ3 B3 M3 hz4
  refine (HK3.out g _ (fun y hy => by simp at hy; omega) A3 c3 (M4.keep ((Only.refl [] _).alloc _)) _ (Sl.of_bk (Bk.new w4 3 #[.int .i64 2]))).mono ?_
  rintro e w5 ⟨A5, c5, Ag, cg, rfl, M5, O5⟩
  have hQ5 := Lib.hid ((hQ4.out.alloc (.cells #[.int .i64 2] 3)).then O5)
  have B5 := (B4.alloc (.cells #[.int .i64 2] 3)).only O5 (by simp)
  have hg5 : g < w5.heap.size := B5.lt
  clear M4 B4 O5 hQ4 HK3
  obtain ⟨k0, k1, k2, k3⟩ := bk_four B5
  have f0 := B5.free 0
  have f1 := B5.free 1
  have f2 := B5.free 2
  have f3 := B5.free 3
  go_wp2_with fail
  have M6 := M5.store (fun h => h rfl) (.string ⟨#[97]⟩) (.int .i64 1) (.int .i64 3) (.slice A5 1 c5)
  have hQ6 := Lib.hid (only_store hQ5.out (.inr hw2.out) (.string ⟨#[97]⟩) (.int .i64 1) (.int .i64 3) (.slice A5 1 c5))
  have hz6 : ((((w5.setCell ⟨g, 0, none⟩ (.string ⟨#[97]⟩)).setCell ⟨g, 1, none⟩ (.int .i64 1)).setCell ⟨g, 2, none⟩ (.int .i64 3)).setCell ⟨g, 3, none⟩ (.slice A5 1 c5)).heap.size = w5.heap.size := by simp [World.setCell]
  refine (HK4.out g _ (fun y hy => by rw [hz6] at hy; omega) A5 c5 M6).mono ?_
  rintro e w7 ⟨A7, c7, rfl, M7, O7⟩
  have hQ7 := Lib.hid (hQ6.out.then O7)
  clear M5 M6 M7 O7 hQ5 hQ6 k0 k1 k2 k3 f0 f1 f2 f3 B5
  go_wp2_with fail
  go_ret
  exact ⟨rfl, hQ7.out.alloc _⟩
end Go.Proofs.Ythaodlegpjedoaa
