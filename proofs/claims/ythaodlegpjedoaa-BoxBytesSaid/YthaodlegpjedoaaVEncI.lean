/-
  The reference's Encode: what always holds while a message's bytes are laid behind those that were there.
-/
import Derived.Test.YthaodlegpjedoaaInv2
import Derived.Test.YthaodlegpjedoaaVCall
import Derived.Test.YthaodlegpjedoaaRefEnc
namespace Go.Proofs.Ythaodlegpjedoaa
open Go.RowKit Go.Instr

def Rw9 (w : World) (v : Value) (m : Nat) (p : List UInt8) (F : Nat → Prop) : Prop := ∃ A c, v = .slice A m c ∧ Own w 5 A m c (bvs p) ∧ ∀ y ∈ blks A, F y
def EncI (w0 : World) (A4 : Option Addr) (c4 m m2 m3 : Nat) (P p2 p3 : List UInt8) (nums : Array Value) (L : Nat → Bool) (vs : Nat → Value) (w : World) : Prop :=
  (Only (blks A4) w0 w ∧ ∀ y ∈ blks A4, y < w0.heap.size) ∧ ((L 13 = true → L 9 = true ∧ L 12 = true) ∧ (L 9 = true → L 8 = true) ∧ (L 8 = true → L 7 = true) ∧ (L 14 = true → L 13 = true)) ∧
    (L 13 = false → (L 7 = true → ∃ k, vs 7 = .slice (some ⟨k, 0, none⟩) 3 3 ∧ w0.heap.size ≤ k ∧ Bk w k 3 nums) ∧ (L 8 = true → Rw9 w (vs 8) m2 p2 (fun y => w0.heap.size ≤ y)) ∧ (L 12 = true → Rw9 w (vs 12) m3 p3 (fun y => w0.heap.size ≤ y))) ∧
    (L 9 = false → Own w 5 A4 m c4 (bvs P)) ∧
    (L 9 = true → L 13 = false → Rw9 w (vs 9) (m + m2) (P ++ p2) (fun y => y ∈ blks A4 ∨ w0.heap.size ≤ y)) ∧
    (L 13 = true → Rw9 w (vs 13) (m + m2 + m3) (P ++ p2 ++ p3) (fun y => y ∈ blks A4 ∨ w0.heap.size ≤ y)) ∧ (L 14 = true → vs 14 = vs 13)
section
variable {w0 w w' : World} {A4 : Option Addr} {c4 m m2 m3 : Nat} {P p2 p3 : List UInt8} {nums : Array Value} {L : Nat → Bool} {vs : Nat → Value}
theorem Rw9.keep {v : Value} {n : Nat} {p : List UInt8} {F : Nat → Prop} (h : Rw9 w v n p F) (o : Only [] w w') : Rw9 w' v n p F := by
  obtain ⟨A, c, e, hv, hf⟩ := h
  exact ⟨A, c, e, hv.keep o, hf⟩
theorem Rw9.only {rs : List Nat} {v : Value} {n : Nat} {p : List UInt8} {F : Nat → Prop} (h : Rw9 w v n p F) (o : Only rs w w') (hd : ∀ y, F y → y ∉ rs) : Rw9 w' v n p F := by
  obtain ⟨A, c, e, hv, hf⟩ := h
  exact ⟨A, c, e, hv.only o (fun y hy => hd y (hf y hy)), hf⟩
theorem EncI.start (h : Own w0 5 A4 m c4 (bvs P)) (vs : Nat → Value) : EncI w0 A4 c4 m m2 m3 P p2 p3 nums (fun _ => false) vs w0.drew :=
  ⟨⟨(Only.refl _ w0).drew, fun _ hy => h.lt hy⟩, ⟨(by simp), (by simp), (by simp), (by simp)⟩, (by simp), (fun _ => h.keep ((Only.refl [] w0).drew)), (by simp), (by simp), (by simp)⟩
theorem EncI.pure {k : Nat} (h : EncI w0 A4 c4 m m2 m3 P p2 p3 nums L vs w) (hk : 7 ≠ k ∧ 8 ≠ k ∧ 9 ≠ k ∧ 12 ≠ k ∧ 13 ≠ k ∧ 14 ≠ k) : EncI w0 A4 c4 m m2 m3 P p2 p3 nums (updN L k true) vs w := by
  obtain ⟨k1, k2, k3, k4, k5, k6⟩ := hk
  unfold EncI at *
  rw [updN_ne _ _ k1, updN_ne _ _ k2, updN_ne _ _ k3, updN_ne _ _ k4, updN_ne _ _ k5, updN_ne _ _ k6]
  exact h
theorem EncI.keep (h : EncI w0 A4 c4 m m2 m3 P p2 p3 nums L vs w) (o : Only [] w w') : EncI w0 A4 c4 m m2 m3 P p2 p3 nums L vs w' := by
  obtain ⟨⟨h1, h1b⟩, h2, h3, h4, h5, h6, h7⟩ := h
  refine ⟨⟨h1.then o, h1b⟩, h2, fun e => ?_, fun e => (h4 e).keep o, fun e e2 => (h5 e e2).keep o, fun e => (h6 e).keep o, h7⟩
  obtain ⟨q1, q2, q3⟩ := h3 e
  exact ⟨fun hl => by obtain ⟨k, e1, e2, e3⟩ := q1 hl; exact ⟨k, e1, e2, e3.only o (by simp)⟩, fun hl => (q2 hl).keep o, fun hl => (q3 hl).keep o⟩
theorem EncI.le (h : EncI w0 A4 c4 m m2 m3 P p2 p3 nums L vs w) : w0.heap.size ≤ w.heap.size := h.1.1.size
theorem EncI.no13 (h : EncI w0 A4 c4 m m2 m3 P p2 p3 nums L vs w) (hl : L 9 = false ∨ L 12 = false ∨ L 8 = false ∨ L 7 = false) : L 13 = false := by
  obtain ⟨_, ⟨a, b, c, _⟩, _⟩ := h
  cases e : L 13 with
  | false => rfl
  | true =>
    have h9 := (a e).1
    have h12 := (a e).2
    have h8 := b h9
    have h7 := c h8
    rcases hl with h | h | h | h
    · rw [h9] at h; cases h
    · rw [h12] at h; cases h
    · rw [h8] at h; cases h
    · rw [h7] at h; cases h
theorem EncI.s7 (h : EncI w0 A4 c4 m m2 m3 P p2 p3 nums L vs w) (hL : L 7 = false) : EncI w0 A4 c4 m m2 m3 P p2 p3 nums (updN L 7 true) (updN vs 7 (.slice (some ⟨w.heap.size, 0, none⟩) 3 3)) (w.alloc (.cells nums 3)) := by
  have n13 := h.no13 (.inr (.inr (.inr hL)))
  have hsz := h.1.1.size
  obtain ⟨h1, ⟨a, b, c, d⟩, h3, h4, h5, h6, h7⟩ := h.keep ((Only.refl [] w).alloc (.cells nums 3))
  obtain ⟨q1, q2, q3⟩ := h3 n13
  have hb := Bk.new w 3 nums
  unfold EncI
  simp only [updN_self, updN_ne _ _ (show (8 : Nat) ≠ 7 by decide), updN_ne _ _ (show (9 : Nat) ≠ 7 by decide), updN_ne _ _ (show (12 : Nat) ≠ 7 by decide), updN_ne _ _ (show (13 : Nat) ≠ 7 by decide), updN_ne _ _ (show (14 : Nat) ≠ 7 by decide)]
  exact ⟨h1, ⟨a, b, fun _ => trivial, d⟩, fun _ => ⟨fun _ => ⟨_, rfl, hsz, hb⟩, q2, q3⟩, h4, h5, h6, h7⟩
theorem EncI.s8 {v : Value} (h : EncI w0 A4 c4 m m2 m3 P p2 p3 nums L vs w) (hL : L 8 = false) (h7t : L 7 = true) (o : Only [] w w') (hr : Rw9 w' v m2 p2 (fun y => w.heap.size ≤ y)) : EncI w0 A4 c4 m m2 m3 P p2 p3 nums (updN L 8 true) (updN vs 8 v) w' := by
  have n13 := h.no13 (.inr (.inr (.inl hL)))
  have hsz := h.1.1.size
  obtain ⟨h1, ⟨a, b, c, d⟩, h3, h4, h5, h6, h7⟩ := h.keep o
  obtain ⟨q1, q2, q3⟩ := h3 n13
  obtain ⟨A, c2, e1, e2, e3⟩ := hr
  unfold EncI
  simp only [updN_self, updN_ne _ _ (show (7 : Nat) ≠ 8 by decide), updN_ne _ _ (show (9 : Nat) ≠ 8 by decide), updN_ne _ _ (show (12 : Nat) ≠ 8 by decide), updN_ne _ _ (show (13 : Nat) ≠ 8 by decide), updN_ne _ _ (show (14 : Nat) ≠ 8 by decide)]
  exact ⟨h1, ⟨a, fun _ => trivial, fun _ => h7t, d⟩, fun _ => ⟨q1, fun _ => ⟨A, c2, e1, e2, fun y hy => Nat.le_trans hsz (e3 y hy)⟩, q3⟩, h4, h5, h6, h7⟩
theorem EncI.s12 {v : Value} (h : EncI w0 A4 c4 m m2 m3 P p2 p3 nums L vs w) (hL : L 12 = false) (o : Only [] w w') (hr : Rw9 w' v m3 p3 (fun y => w.heap.size ≤ y)) : EncI w0 A4 c4 m m2 m3 P p2 p3 nums (updN L 12 true) (updN vs 12 v) w' := by
  have n13 := h.no13 (.inr (.inl hL))
  have hsz := h.1.1.size
  obtain ⟨h1, ⟨a, b, c, d⟩, h3, h4, h5, h6, h7⟩ := h.keep o
  obtain ⟨q1, q2, q3⟩ := h3 n13
  obtain ⟨A, c2, e1, e2, e3⟩ := hr
  unfold EncI
  simp only [updN_self, updN_ne _ _ (show (7 : Nat) ≠ 12 by decide), updN_ne _ _ (show (8 : Nat) ≠ 12 by decide), updN_ne _ _ (show (9 : Nat) ≠ 12 by decide), updN_ne _ _ (show (13 : Nat) ≠ 12 by decide), updN_ne _ _ (show (14 : Nat) ≠ 12 by decide)]
  exact ⟨h1, ⟨fun e => ⟨(a e).1, trivial⟩, b, c, d⟩, fun _ => ⟨q1, q2, fun _ => ⟨A, c2, e1, e2, fun y hy => Nat.le_trans hsz (e3 y hy)⟩⟩, h4, h5, h6, h7⟩
theorem EncI.s9 {v : Value} (h : EncI w0 A4 c4 m m2 m3 P p2 p3 nums L vs w) (hL : L 9 = false) (h8t : L 8 = true) (o : Only (blks A4) w w') (hr : Rw9 w' v (m + m2) (P ++ p2) (fun y => y ∈ blks A4 ∨ w.heap.size ≤ y)) : EncI w0 A4 c4 m m2 m3 P p2 p3 nums (updN L 9 true) (updN vs 9 v) w' := by
  have n13 := h.no13 (.inl hL)
  have hsz := h.1.1.size
  obtain ⟨⟨h1, h1b⟩, ⟨a, b, c, d⟩, h3, h4, h5, h6, h7⟩ := h
  obtain ⟨q1, q2, q3⟩ := h3 n13
  obtain ⟨A, c2, e1, e2, e3⟩ := hr
  have hd : ∀ y, w0.heap.size ≤ y → y ∉ blks A4 := fun y hy hm => by have := h1b y hm; omega
  unfold EncI
  simp only [updN_self, updN_ne _ _ (show (7 : Nat) ≠ 9 by decide), updN_ne _ _ (show (8 : Nat) ≠ 9 by decide), updN_ne _ _ (show (12 : Nat) ≠ 9 by decide), updN_ne _ _ (show (13 : Nat) ≠ 9 by decide), updN_ne _ _ (show (14 : Nat) ≠ 9 by decide)]
  refine ⟨⟨h1.trans o (fun y hy => .inl hy), h1b⟩, ⟨(fun e => by rw [n13] at e; cases e), fun _ => h8t, c, d⟩, fun _ => ⟨fun hl => ?_, fun hl => (q2 hl).only o hd, fun hl => (q3 hl).only o hd⟩, (fun e => by cases e), fun _ _ => ⟨A, c2, e1, e2, fun y hy => ?_⟩, (fun e => by rw [n13] at e; cases e), h7⟩
  · obtain ⟨k, k1, k2, k3⟩ := q1 hl
    exact ⟨k, k1, k2, k3.only o (hd k k2)⟩
  · rcases e3 y hy with hh | hh
    · exact .inl hh
    · exact .inr (by omega)
theorem EncI.s13 {v : Value} {rs : List Nat} (h : EncI w0 A4 c4 m m2 m3 P p2 p3 nums L vs w) (h9t : L 9 = true) (h12t : L 12 = true) (h14f : L 14 = false) (o : Only rs w w') (hrs : ∀ y ∈ rs, y ∈ blks A4 ∨ w0.heap.size ≤ y) (hr : Rw9 w' v (m + m2 + m3) (P ++ p2 ++ p3) (fun y => y ∈ blks A4 ∨ w0.heap.size ≤ y)) : EncI w0 A4 c4 m m2 m3 P p2 p3 nums (updN L 13 true) (updN vs 13 v) w' := by
  obtain ⟨⟨h1, h1b⟩, ⟨a, b, c, d⟩, h3, h4, h5, h6, h7⟩ := h
  unfold EncI
  simp only [updN_self, updN_ne _ _ (show (7 : Nat) ≠ 13 by decide), updN_ne _ _ (show (8 : Nat) ≠ 13 by decide), updN_ne _ _ (show (9 : Nat) ≠ 13 by decide), updN_ne _ _ (show (12 : Nat) ≠ 13 by decide), updN_ne _ _ (show (14 : Nat) ≠ 13 by decide)]
  exact ⟨⟨h1.trans o hrs, h1b⟩, ⟨fun _ => ⟨h9t, h12t⟩, b, c, fun _ => trivial⟩, (fun e => by cases e), (fun e => by rw [h9t] at e; cases e), (fun _ e => by cases e), fun _ => hr, fun e => by rw [h14f] at e; cases e⟩
theorem EncI.s14 (h : EncI w0 A4 c4 m m2 m3 P p2 p3 nums L vs w) (h13t : L 13 = true) : EncI w0 A4 c4 m m2 m3 P p2 p3 nums (updN L 14 true) (updN vs 14 (vs 13)) w := by
  obtain ⟨h1, ⟨a, b, c, d⟩, h3, h4, h5, h6, h7⟩ := h
  unfold EncI
  simp only [updN_self, updN_ne _ _ (show (7 : Nat) ≠ 14 by decide), updN_ne _ _ (show (8 : Nat) ≠ 14 by decide), updN_ne _ _ (show (9 : Nat) ≠ 14 by decide), updN_ne _ _ (show (12 : Nat) ≠ 14 by decide), updN_ne _ _ (show (13 : Nat) ≠ 14 by decide)]
  exact ⟨h1, ⟨a, b, c, fun _ => h13t⟩, h3, h4, h5, h6, fun _ => trivial⟩
end
end Go.Proofs.Ythaodlegpjedoaa
