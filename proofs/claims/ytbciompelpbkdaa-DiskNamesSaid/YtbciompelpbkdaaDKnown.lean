/-
  Calls of disk in the forms in which laws make them; the law's known.
-/
import Derived.Test.YtbciompelpbkdaaDCopy
import Derived.Test.YtbciompelpbkdaaSpoil
import Derived.Lib.SmallJoins
namespace Go.Proofs.Ytbciompelpbkdaa
open Go.RowKit Go.Maps

section
variable {w : World} {d : Nat} {F : List Nat} {S S' : St} {v : Value}
theorem Did.back {w0 : World} {e : Ending} {w' : World} (h : Did d F S' v w e w') (o : Only [] w0 w) : Did d F S' v w0 e w' := by
  obtain ⟨he, F', hD, hO, hB⟩ := h
  have := o.size
  exact ⟨he, F', hD, (o.mono (fun _ hx => by cases hx)).trans hO (fun x hx => .inl hx), fun x hx => (hB x hx).imp id (fun h => by omega)⟩
theorem RwS.one' {S : Nat → Prop} {w : World} {g : Nat} {t : TypeId} {A : Option Addr} {c : Nat} {l : List UInt8} (h : Bk w g t #[.slice A l.length c]) (hs : Sl w A l.length (bvs l)) (hg : S g) (hA : 0 < l.length → ∀ ad, A = some ad → S ad.block) : RwS S w (some ⟨g, 0, none⟩) 1 [l] :=
  ⟨rfl, _, Sl.of_bk h, fun _ ad e => by injection e with e; subst e; exact hg, fun i l' hi => by
    match i, hi with
    | 0, hi => simp at hi; subst hi; exact ⟨A, c, by simp, hs, hA⟩⟩
/-- Append of one row that the caller has just laid. -/
theorem append_one (h : Disk w d F S) (s : ByteArray) (A : Option Addr) (n c : Nat) (l : List UInt8) (hl : l.length = n) (hs : Sl w A n (bvs l)) (hA : 0 < n → ∀ ad, A = some ad → ad.block ∉ F) :
    Calls Try.prog 16 #[.pointer (some ⟨d, 0, none⟩), .string s, .slice (some ⟨w.heap.size, 0, none⟩) 1 1] (w.alloc (.cells #[.slice A n c] 32)) (Did d F (appendS S s l) (.int .i64 (errA S s l : Nat)) w) := by
  subst hl
  refine (append_any (h.keep ((Only.refl [] w).alloc _)) s _ 1 1 [l] (RwS.one' (Bk.new w _ _) (hs.alloc _) (fun hx => by have := h.lt hx; omega) hA) (by omega) l (by simp)).mono fun e w' hd => hd.back ((Only.refl [] w).alloc _)
theorem append_at (h : Disk w d F S) (s : ByteArray) (A : Option Addr) (n c : Nat) (l : List UInt8) (hl : l.length = n) (hs : Sl w A n (bvs l)) (hA : 0 < n → ∀ ad, A = some ad → ad.block ∉ F) (g : Nat) (hg : g = w.heap.size) :
    Calls Try.prog 16 #[.pointer (some ⟨d, 0, none⟩), .string s, .slice (some ⟨g, 0, none⟩) 1 1] (w.alloc (.cells #[.slice A n c] 32)) (Did d F (appendS S s l) (.int .i64 (errA S s l : Nat)) w) := by
  subst hg
  exact append_one h s A n c l hl hs hA
/-- .. of bytes that the law's text has. -/
theorem append_lit (h : Disk w d F S) (s : ByteArray) (l : List UInt8) (xs : Array Value) (n : Nat) (fr : Nat × Nat) (hl : l.length = n) (hx : xs.toList = bvs l) (hn : xs.size = n) {S' : St} {r : Nat} (he : errA S s l = r) (hS : appendS S s l = S') (g g' : Nat) (hg : g = w.heap.size + 1) (hg' : g' = w.heap.size) :
    Calls Try.prog 16 #[.pointer (some ⟨d, 0, none⟩), .string s, .slice (some ⟨g, 0, none⟩) 1 1] ((w.alloc (.cells xs 5 fr)).alloc (.cells #[.slice (some ⟨g', 0, none⟩) n n] 32)) (Did d F S' (.int .i64 (r : Nat)) w) := by
  subst hg' he hS
  have hs := Sl.of_new w xs 5 fr
  rw [hx, hn] at hs
  exact (append_at (h.keep ((Only.refl [] w).alloc _)) s _ n n l hl hs (fun _ ad e hm => by injection e with e; subst e; have := h.lt hm; exact Nat.lt_irrefl _ this) g (by rw [hg, World.size_alloc])).mono fun e w' hd => hd.back ((Only.refl [] w).alloc _)
/-- Sync and Remove of one name. -/
theorem sync_one (h : Disk w d F S) (s : ByteArray) : Calls Try.prog 20 #[.pointer (some ⟨d, 0, none⟩), .slice (some ⟨w.heap.size, 0, none⟩) 1 1] (w.alloc (.cells #[.string s] 9)) (Did d F (syncS S s) (.int .i64 (errF S s : Nat)) w) := by
  have := Sync_any (h.keep ((Only.refl [] w).alloc (.cells #[.string s] 9))) (some ⟨w.heap.size, 0, none⟩) 1 1 [s] (sl_name w s) (fun ad e hx => by injection e with e; subst e; have := h.lt hx; exact Nat.lt_irrefl _ this) (by omega)
  have e1 : eachE errF syncS S [s] = errF S s := by
    by_cases h0 : errF S s = 0
    · rw [eachE_cons h0, h0]; rfl
    · rw [eachE_stop h0]
  have e2 : eachS errF syncS S [s] = syncS S s := by
    by_cases h0 : errF S s = 0
    · rw [eachS_cons h0]; rfl
    · rw [eachS_stop h0]; unfold syncS; rw [if_neg h0]
  rw [e1, e2] at this
  exact this.mono fun e w' hd => hd.back ((Only.refl [] w).alloc _)
theorem remove_one (h : Disk w d F S) (s : ByteArray) : Calls Try.prog 24 #[.pointer (some ⟨d, 0, none⟩), .slice (some ⟨w.heap.size, 0, none⟩) 1 1] (w.alloc (.cells #[.string s] 9)) (Did d F (removeS S s) (.int .i64 (errF S s : Nat)) w) := by
  have := Remove_any (h.keep ((Only.refl [] w).alloc (.cells #[.string s] 9))) (some ⟨w.heap.size, 0, none⟩) 1 1 [s] (sl_name w s) (fun ad e hx => by injection e with e; subst e; have := h.lt hx; exact Nat.lt_irrefl _ this) (by omega)
  have e1 : eachE errF removeS S [s] = errF S s := by
    by_cases h0 : errF S s = 0
    · rw [eachE_cons h0, h0]; rfl
    · rw [eachE_stop h0]
  have e2 : eachS errF removeS S [s] = removeS S s := by
    by_cases h0 : errF S s = 0
    · rw [eachS_cons h0]; rfl
    · rw [eachS_stop h0]; unfold removeS; rw [if_neg h0]
  rw [e1, e2] at this
  exact this.mono fun e w' hd => hd.back ((Only.refl [] w).alloc _)
/-- What has been done to a disk that the call has made itself turns nothing that was there. -/
theorem Only.fresh {w0 w1 w2 : World} {F : List Nat} (h : Only [] w0 w1) (o : Only F w1 w2) (hF : ∀ x ∈ F, w0.heap.size ≤ x) : Only [] w0 w2 := h.trans o (fun x hx => .inr (hF x hx))
theorem fresh_fp {w0 w1 : World} {F F' : List Nat} (h : Only [] w0 w1) (hF : ∀ x ∈ F, w0.heap.size ≤ x) (hB : ∀ x ∈ F', x ∈ F ∨ w1.heap.size ≤ x) : ∀ x ∈ F', w0.heap.size ≤ x := fun x hx => by
  have := h.size
  rcases hB x hx with h | h
  · exact hF x h
  · omega
end

/-! ### known -/
def nameA : ByteArray := ⟨#[97]⟩
def kS0 : St := ⟨100, [], none⟩
def kS1 : St := ⟨100, [⟨nameA, [49, 50, 51, 52, 53], 0⟩], none⟩
def kS2 : St := ⟨100, [⟨nameA, [49, 50, 51, 52, 53], 5⟩], none⟩
def kS3 : St := ⟨100, [⟨nameA, [49, 50, 51, 52, 53, 54, 55, 56], 5⟩], none⟩
def kS4 : St := ⟨100, [⟨nameA, [49, 50, 51, 52, 53, 54], 6⟩], none⟩
theorem k1 : errA kS0 nameA [49, 50, 51, 52, 53] = 0 ∧ appendS kS0 nameA [49, 50, 51, 52, 53] = kS1 := ⟨by kernel_rfl, by kernel_rfl⟩
theorem k2 : errF kS1 nameA = 0 ∧ syncS kS1 nameA = kS2 := ⟨by kernel_rfl, by kernel_rfl⟩
theorem k3 : errA kS2 nameA [54, 55, 56] = 0 ∧ appendS kS2 nameA [54, 55, 56] = kS3 := ⟨by kernel_rfl, by kernel_rfl⟩
theorem k4 : crashS kS3 1 = kS4 := by kernel_rfl
theorem k5 : readD kS4 nameA = [49, 50, 51, 52, 53, 54] ∧ readE kS4 nameA = 0 := ⟨by kernel_rfl, by kernel_rfl⟩
theorem same_eq (A A' : Option Addr) (n c n' c' : Nat) (l l' : List UInt8) (w : World) (h : l = l') (ha : Sl w A n (bvs l)) (hb : Sl w A' n' (bvs l')) (hn : n ≤ 1000000000000) :
    Calls Try.prog 22 #[.slice A n c, .slice A' n' c'] w fun e w' => e = .returned (.bool true) ∧ Only [] w w' := by
  subst h
  have h1 : l.length = n := by simpa using ha.len
  have h2 : l.length = n' := by simpa using hb.len
  refine (same_any A A' n c n' c' l l w ha hb (by omega) (by omega)).mono ?_
  rintro e w' ⟨he, ho⟩
  exact ⟨by rw [he]; simp, ho⟩

set_option maxRecDepth 100000 in
set_option maxHeartbeats 2000000 in
theorem known_any (w : World) : Calls Try.prog 11 #[] w fun e w' => e = .returned (.bool true) ∧ Only [] w w' := by
  have kc := fun (w : World) (C : Array Value) (n c g : Nat) (hg : g = w.heap.size) => Joins.run_convert_bytes_const_at (P := Try.prog) w 32 5 C n c g hg Try.underlying32 Try.underlying5
  have HNEW := Lib.hid (new_any (w := w) 100 (by omega))
  go_enter Try.func11, Try.ntmps11
  go_wp2_with (first
    | (go_at_call 12; refine HNEW.out.mono ?_; rintro e w1 ⟨d, rfl, D1, O1, hd⟩; have B1 : ∀ x ∈ [d], w.heap.size ≤ x := (fun x hx => by simp at hx; rw [hx]; exact hd))
    | (go_at_call 16; refine (append_lit D3 nameA [54, 55, 56] _ 3 _ rfl rfl rfl k3.1 k3.2 _ _ rfl rfl).mono ?_; rintro e w4 ⟨rfl, F4, D4, O4, B4⟩; have Q4 := Q3.fresh O4 P3; have P4 := fresh_fp Q3 P3 B4)
    | (go_at_call 16; refine (append_lit D1 nameA [49, 50, 51, 52, 53] _ 5 _ rfl rfl rfl k1.1 k1.2 _ _ rfl rfl).mono ?_; rintro e w2 ⟨rfl, F2, D2, O2, B2⟩; have Q2 := O1.fresh O2 B1; have P2 := fresh_fp O1 B1 B2)
    | (go_at_call 20; refine (sync_one D2 nameA).mono ?_; rw [k2.1, k2.2]; rintro e w3 ⟨rfl, F3, D3, O3, B3⟩; have Q3 := Q2.fresh O3 P2; have P3 := fresh_fp Q2 P2 B3)
    | (go_at_call 17; refine (crash_any D4 1 (by omega)).mono ?_; rw [k4]; rintro e w5 ⟨rfl, F5, D5, O5, B5⟩; have Q5 := Q4.fresh O5 P4)
    | (go_at_call 21; refine (read_any D5 nameA (by decide)).mono ?_; rw [k5.1, k5.2]; rintro e w6 ⟨A6, c6, rfl, V6, O6, B6⟩; have Q6 := Q5.then O6)
    | (go_at_call 22; refine (same_eq A6 (some ⟨w6.heap.size, 0, none⟩) 6 c6 6 6 [49, 50, 51, 52, 53, 54] [49, 50, 51, 52, 53, 54] _ rfl (V6.sl.alloc _) (Sl.of_new w6 #[.int .u8 49, .int .u8 50, .int .u8 51, .int .u8 52, .int .u8 53, .int .u8 54] _ _) (by omega)).mono ?_; rintro e w7 ⟨rfl, O7⟩))
  go_ret
  exact ⟨rfl, (Q6.alloc _).then O7⟩
end Go.Proofs.Ytbciompelpbkdaa
