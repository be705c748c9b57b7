/-
  Calls of disk in the forms in which laws make them; the law's known.
-/
import Derived.Test.YtblggoneifmoeaaDoorDCrash
import Derived.Test.YtblggoneifmoeaaDoorDRename
import Derived.Test.YtblggoneifmoeaaDoorSame
import Derived.Lib.SmallJoins
namespace Go.Proofs.YtblggoneifmoeaaDoor
open Go.RowKit Go.Maps

section
variable {w : World} {d : Nat} {F : List Nat} {S S' : St} {v : Value}
theorem Did.back {w0 : World} {e : Ending} {w' : World} (h : Did d F S' v w e w') (o : Only [] w0 w) : Did d F S' v w0 e w' := by
  obtain ⟨he, F', hD, hO, hB⟩ := h
  have := o.size
  exact ⟨he, F', hD, (o.mono (fun _ hx => by cases hx)).trans hO (fun x hx => .inl hx), fun x hx => (hB x hx).imp id (fun h => by omega)⟩
theorem RwS.one' {S : Nat → Prop} {w : World} {g : Nat} {t : TypeId} {A : Option Addr} {c : Nat} {l : List UInt8} (h : Bk w g t #[.slice A l.length c]) (hs : Sl w A l.length (bvs l)) (hg : S g) (hA : 0 < l.length → ∀ ad, A = some ad → S ad.block) : RwS S w (some ⟨g, 0, none⟩) 1 [l] :=
  ⟨rfl, _, Sl.of_bk h, fun _ ad e => by injection e with e; subst e; exact hg, fun i l' hi => by
    match i, hi with
    | 0, hi => simp at hi; subst hi; exact ⟨A, c, by simp, hs, hA⟩⟩
/-- Append of one row that the caller has just laid. -/
theorem append_one (h : Disk w d F S) (s : ByteArray) (A : Option Addr) (n c : Nat) (l : List UInt8) (hl : l.length = n) (hs : Sl w A n (bvs l)) (hA : 0 < n → ∀ ad, A = some ad → ad.block ∉ F) :
    Calls Tryd.prog 41 #[.pointer (some ⟨d, 0, none⟩), .string s, .slice (some ⟨w.heap.size, 0, none⟩) 1 1] (w.alloc (.cells #[.slice A n c] 23)) (Did d F (appendS S s l) (.int .i64 (errA S s l : Nat)) w) := by
  subst hl
  refine (append_any (h.keep ((Only.refl [] w).alloc _)) s _ 1 1 [l] (RwS.one' (Bk.new w _ _) (hs.alloc _) (fun hx => by have := h.lt hx; omega) hA) (by omega) l (by simp)).mono fun e w' hd => hd.back ((Only.refl [] w).alloc _)
theorem append_at (h : Disk w d F S) (s : ByteArray) (A : Option Addr) (n c : Nat) (l : List UInt8) (hl : l.length = n) (hs : Sl w A n (bvs l)) (hA : 0 < n → ∀ ad, A = some ad → ad.block ∉ F) (g : Nat) (hg : g = w.heap.size) :
    Calls Tryd.prog 41 #[.pointer (some ⟨d, 0, none⟩), .string s, .slice (some ⟨g, 0, none⟩) 1 1] (w.alloc (.cells #[.slice A n c] 23)) (Did d F (appendS S s l) (.int .i64 (errA S s l : Nat)) w) := by
  subst hg
  exact append_one h s A n c l hl hs hA
/-- .. of bytes that the law's text has. -/
theorem append_lit (h : Disk w d F S) (s : ByteArray) (l : List UInt8) (xs : Array Value) (n : Nat) (fr : Nat × Nat) (hl : l.length = n) (hx : xs.toList = bvs l) (hn : xs.size = n) {S' : St} {r : Nat} (he : errA S s l = r) (hS : appendS S s l = S') (g g' : Nat) (hg : g = w.heap.size + 1) (hg' : g' = w.heap.size) :
    Calls Tryd.prog 41 #[.pointer (some ⟨d, 0, none⟩), .string s, .slice (some ⟨g, 0, none⟩) 1 1] ((w.alloc (.cells xs 5 fr)).alloc (.cells #[.slice (some ⟨g', 0, none⟩) n n] 23)) (Did d F S' (.int .i64 (r : Nat)) w) := by
  subst hg' he hS
  have hs := Sl.of_new w xs 5 fr
  rw [hx, hn] at hs
  exact (append_at (h.keep ((Only.refl [] w).alloc _)) s _ n n l hl hs (fun _ ad e hm => by injection e with e; subst e; have := h.lt hm; exact Nat.lt_irrefl _ this) g (by rw [hg, World.size_alloc])).mono fun e w' hd => hd.back ((Only.refl [] w).alloc _)
/-- Sync and Remove of one name. -/
theorem sync_one (h : Disk w d F S) (s : ByteArray) : Calls Tryd.prog 42 #[.pointer (some ⟨d, 0, none⟩), .slice (some ⟨w.heap.size, 0, none⟩) 1 1] (w.alloc (.cells #[.string s] 9)) (Did d F (syncS S s) (.int .i64 (errF S s : Nat)) w) := by
  have := Sync_any (h.keep ((Only.refl [] w).alloc (.cells #[.string s] 9))) (some ⟨w.heap.size, 0, none⟩) 1 1 [s] (sl_name w s) (fun ad e hx => by injection e with e; subst e; have := h.lt hx; exact Nat.lt_irrefl _ this) (by omega)
  have e1 : eachE errF syncS S [s] = errF S s := by
    by_cases h0 : errF S s = 0
    · rw [eachE_cons h0, h0]; rfl
    · rw [eachE_stop h0]
  have e2 : eachS errF syncS S [s] = syncS S s := by
    by_cases h0 : errF S s = 0
    · rw [eachS_cons h0]; rfl
    · rw [eachS_stop h0]; unfold syncS; rw [if_neg h0]
  rw [e1, e2] at this
  exact this.mono fun e w' hd => hd.back ((Only.refl [] w).alloc _)
theorem remove_one (h : Disk w d F S) (s : ByteArray) : Calls Tryd.prog 34 #[.pointer (some ⟨d, 0, none⟩), .slice (some ⟨w.heap.size, 0, none⟩) 1 1] (w.alloc (.cells #[.string s] 9)) (Did d F (removeS S s) (.int .i64 (errF S s : Nat)) w) := by
  have := Remove_any (h.keep ((Only.refl [] w).alloc (.cells #[.string s] 9))) (some ⟨w.heap.size, 0, none⟩) 1 1 [s] (sl_name w s) (fun ad e hx => by injection e with e; subst e; have := h.lt hx; exact Nat.lt_irrefl _ this) (by omega)
  have e1 : eachE errF removeS S [s] = errF S s := by
    by_cases h0 : errF S s = 0
    · rw [eachE_cons h0, h0]; rfl
    · rw [eachE_stop h0]
  have e2 : eachS errF removeS S [s] = removeS S s := by
    by_cases h0 : errF S s = 0
    · rw [eachS_cons h0]; rfl
    · rw [eachS_stop h0]; unfold removeS; rw [if_neg h0]
  rw [e1, e2] at this
  exact this.mono fun e w' hd => hd.back ((Only.refl [] w).alloc _)
/-- What has been done to a disk that the call has made itself turns nothing that was there. -/
theorem Only.fresh {w0 w1 w2 : World} {F : List Nat} (h : Only [] w0 w1) (o : Only F w1 w2) (hF : ∀ x ∈ F, w0.heap.size ≤ x) : Only [] w0 w2 := h.trans o (fun x hx => .inr (hF x hx))
theorem fresh_fp {w0 w1 : World} {F F' : List Nat} (h : Only [] w0 w1) (hF : ∀ x ∈ F, w0.heap.size ≤ x) (hB : ∀ x ∈ F', x ∈ F ∨ w1.heap.size ≤ x) : ∀ x ∈ F', w0.heap.size ≤ x := fun x hx => by
  have := h.size
  rcases hB x hx with h | h
  · exact hF x h
  · omega
end

end Go.Proofs.YtblggoneifmoeaaDoor
