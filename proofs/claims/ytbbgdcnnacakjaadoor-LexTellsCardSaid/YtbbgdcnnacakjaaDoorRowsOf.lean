/-
  Slices of slices of bytes, what a call hands back in new memory; the closed facts of the types that the walks of octet want.
-/
import Derived.Test.YtbbgdcnnacakjaaDoorRows
import Derived.Test.YtbbgdcnnacakjaaDoorAppend
namespace Go.Proofs.YtbbgdcnnacakjaaDoor
open Go.RowKit

theorem infoByte : (Tryd.prog.info? 5).map (fun i => (i.zero, i.size, i.bytes)) = some (some (.int .u8 0), 1, 1) := by kernel_rfl
theorem infoInt : (Tryd.prog.info? 3).map (fun i => (i.zero, i.size, i.bytes)) = some (some (.int .i64 0), 1, 8) := by kernel_rfl
theorem infoBytes : (Tryd.prog.info? 32).map (fun i => (i.zero, i.size, i.bytes)) = some (some (.slice none 0 0), 1, 24) := by kernel_rfl

/-- A slice of slices of bytes. -/
def Rw (w : World) (A : Option Addr) (n : Nat) (ls : List (List UInt8)) : Prop :=
  ls.length = n ∧ ∃ vs : List Value, Sl w A n vs ∧ ∀ (i : Nat) (l : List UInt8), ls[i]? = some l → ∃ Ai ci, vs[i]? = some (.slice Ai l.length ci) ∧ Sl w Ai l.length (bvs l)
section
variable {w w' : World} {A : Option Addr} {n : Nat} {ls : List (List UInt8)}
theorem Rw.len (h : Rw w A n ls) : ls.length = n := h.1
theorem Rw.keep (h : Rw w A n ls) (o : Only [] w w') : Rw w' A n ls := by
  obtain ⟨hl, vs, hs, hr⟩ := h
  exact ⟨hl, vs, hs.keep o, fun i l hi => by obtain ⟨Ai, ci, h1, h2⟩ := hr i l hi; exact ⟨Ai, ci, h1, h2.keep o⟩⟩
theorem Rw.at_ (h : Rw w A n ls) {k : Nat} (hk : k < n) (hk' : k < ls.length) : ∃ ad Ai ci, A = some ad ∧ w.cell? (ad.add k) = some (.slice Ai ls[k].length ci) ∧ Sl w Ai ls[k].length (bvs ls[k]) := by
  obtain ⟨hl, vs, hs, hr⟩ := h
  obtain ⟨ad, u, rfl, hu, hc⟩ := hs.at_ hk
  obtain ⟨Ai, ci, h1, h2⟩ := hr k ls[k] (List.getElem?_eq_getElem hk')
  rw [hu] at h1
  injection h1 with h1
  subst h1
  exact ⟨ad, Ai, ci, rfl, hc, h2⟩
/-- One row in a block of its own: what a call with one row behind '...' lays. -/
theorem Rw.one {g : Nat} {t : TypeId} {A : Option Addr} {c : Nat} {l : List UInt8} (h : Bk w g t #[.slice A l.length c]) (hs : Sl w A l.length (bvs l)) : Rw w (some ⟨g, 0, none⟩) 1 [l] :=
  ⟨rfl, _, Sl.of_bk h, fun i l' hi => by
    match i, hi with
    | 0, hi => simp at hi; subst hi; exact ⟨A, c, by simp, hs⟩⟩
theorem Rw.two {g : Nat} {t : TypeId} {A A2 : Option Addr} {c c2 : Nat} {l l2 : List UInt8} (h : Bk w g t #[.slice A l.length c, .slice A2 l2.length c2]) (hs : Sl w A l.length (bvs l)) (hs2 : Sl w A2 l2.length (bvs l2)) : Rw w (some ⟨g, 0, none⟩) 2 [l, l2] :=
  ⟨rfl, _, Sl.of_bk h, fun i l' hi => by
    match i, hi with
    | 0, hi => simp at hi; subst hi; exact ⟨A, c, by simp, hs⟩
    | 1, hi => simp at hi; subst hi; exact ⟨A2, c2, by simp, hs2⟩⟩
theorem Rw.none_ : Rw w none 0 [] := ⟨rfl, [], Sl.none_, fun i l h => by simp at h⟩
end

/-- A slice of slices of bytes whose blocks are all of the kind S. -/
def RwS (S : Nat → Prop) (w : World) (A : Option Addr) (n : Nat) (ls : List (List UInt8)) : Prop :=
  ls.length = n ∧ ∃ vs : List Value, Sl w A n vs ∧ (0 < n → ∀ ad, A = some ad → S ad.block) ∧ ∀ (i : Nat) (l : List UInt8), ls[i]? = some l → ∃ Ai ci, vs[i]? = some (.slice Ai l.length ci) ∧ Sl w Ai l.length (bvs l) ∧ (0 < l.length → ∀ ad, Ai = some ad → S ad.block)
section
variable {w w' : World} {A : Option Addr} {n : Nat} {ls : List (List UInt8)} {S : Nat → Prop}
theorem RwS.len (h : RwS S w A n ls) : ls.length = n := h.1
theorem RwS.rw (h : RwS S w A n ls) : Rw w A n ls := by
  obtain ⟨hl, vs, hs, _, hr⟩ := h
  exact ⟨hl, vs, hs, fun i l hi => by obtain ⟨Ai, ci, h1, h2, _⟩ := hr i l hi; exact ⟨Ai, ci, h1, h2⟩⟩
theorem Rw.below (h : Rw w A n ls) : RwS (· < w.heap.size) w A n ls := by
  obtain ⟨hl, vs, hs, hr⟩ := h
  exact ⟨hl, vs, hs, fun hn => hs.lt hn, fun i l hi => by obtain ⟨Ai, ci, h1, h2⟩ := hr i l hi; exact ⟨Ai, ci, h1, h2, fun hn => h2.lt hn⟩⟩
theorem RwS.only {rs : List Nat} (h : RwS S w A n ls) (o : Only rs w w') (hd : ∀ k, S k → k ∉ rs) : RwS S w' A n ls := by
  obtain ⟨hl, vs, hs, hS, hr⟩ := h
  exact ⟨hl, vs, hs.only' o (fun hn ad e => hd _ (hS hn ad e)), hS, fun i l hi => by
    obtain ⟨Ai, ci, h1, h2, h3⟩ := hr i l hi
    exact ⟨Ai, ci, h1, h2.only' o (fun hn ad e => hd _ (h3 hn ad e)), h3⟩⟩
theorem RwS.at_ (h : RwS S w A n ls) {k : Nat} (hk : k < n) (hk' : k < ls.length) : ∃ ad Ai ci, A = some ad ∧ S ad.block ∧ w.cell? (ad.add k) = some (.slice Ai ls[k].length ci) ∧ Sl w Ai ls[k].length (bvs ls[k]) ∧ (0 < ls[k].length → ∀ ad, Ai = some ad → S ad.block) := by
  obtain ⟨hl, vs, hs, hS, hr⟩ := h
  obtain ⟨ad, u, rfl, hu, hc⟩ := hs.at_ hk
  obtain ⟨Ai, ci, h1, h2, h3⟩ := hr k ls[k] (List.getElem?_eq_getElem hk')
  rw [hu] at h1
  injection h1 with h1
  subst h1
  exact ⟨ad, Ai, ci, rfl, hS (by omega) ad rfl, hc, h2, h3⟩
end

theorem RwS.one {S : Nat → Prop} {w : World} {g : Nat} {t : TypeId} {A : Option Addr} {c : Nat} {l : List UInt8} (h : Bk w g t #[.slice A l.length c]) (hs : Sl w A l.length (bvs l)) (hg : S g) (hA : ∀ k ∈ blks A, S k) : RwS S w (some ⟨g, 0, none⟩) 1 [l] :=
  ⟨rfl, _, Sl.of_bk h, fun _ ad e => by injection e with e; subst e; exact hg, fun i l' hi => by
    match i, hi with
    | 0, hi => simp at hi; subst hi; exact ⟨A, c, by simp, hs, fun _ ad e => by subst e; exact hA _ (by simp)⟩⟩

/-- The call returns bytes in new memory, and nothing that was there has turned. -/
def Fresh (w : World) (l : List UInt8) (e : Ending) (w' : World) : Prop :=
  ∃ A c, e = .returned (.slice A l.length c) ∧ Own w' 5 A l.length c (bvs l) ∧ Only [] w w' ∧ ∀ k ∈ blks A, w.heap.size ≤ k

/-- The first k rows, one behind the other; how many bytes these are. -/
def cat (ls : List (List UInt8)) (k : Nat) : List UInt8 := (ls.take k).flatten
def catLen (ls : List (List UInt8)) (k : Nat) : Nat := (cat ls k).length
theorem cat_zero (ls : List (List UInt8)) : cat ls 0 = [] := rfl
theorem catLen_zero (ls : List (List UInt8)) : catLen ls 0 = 0 := rfl
theorem cat_succ (ls : List (List UInt8)) (k : Nat) (h : k < ls.length) : cat ls (k + 1) = cat ls k ++ ls[k] := by
  unfold cat
  rw [List.take_succ_eq_append_getElem h, List.flatten_append]
  simp
theorem catLen_succ (ls : List (List UInt8)) (k : Nat) (h : k < ls.length) : catLen ls (k + 1) = catLen ls k + ls[k].length := by
  unfold catLen
  rw [cat_succ _ _ h, List.length_append]
theorem cat_all (ls : List (List UInt8)) {k : Nat} (h : ls.length ≤ k) : cat ls k = ls.flatten := by
  unfold cat
  rw [List.take_of_length_le h]
theorem catLen_all (ls : List (List UInt8)) {k : Nat} (h : ls.length ≤ k) : catLen ls k = ls.flatten.length := by
  unfold catLen
  rw [cat_all _ h]
theorem catLen_le (ls : List (List UInt8)) (k : Nat) : catLen ls k ≤ ls.flatten.length := by
  have h := congrArg List.length (congrArg List.flatten (List.take_append_drop k ls))
  rw [List.flatten_append, List.length_append] at h
  unfold catLen cat
  omega
end Go.Proofs.YtbbgdcnnacakjaaDoor
