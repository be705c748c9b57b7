/-
  The document's Locks in memory; Holder, Take.
-/
import Derived.Test.YtmjkdfneohpbjaaTwo
import Derived.Test.YtmjkdfneohpbjaaQWords
import Derived.Test.YtmjkdfneohpbjaaRows
import Derived.Lib.SliceRun
import Derived.Handy
import Derived.IntWalk
import Derived.Deep.DeepMust
namespace Go.Proofs.Ytmjkdfneohpbjaa
open Go.RowKit

def hvs (l : List Hd) : List Tw := l.map fun p => (.string p.1, .int .i64 p.2)
def dvs (l : List Du) : List Tw := l.map fun p => (.int .i64 p.1, .int .i64 p.2)
theorem hvs_one (l : List Hd) : OneC (hvs l) := by
  intro r hr
  obtain ⟨p, _, rfl⟩ := List.mem_map.1 hr
  exact ⟨rfl, rfl⟩
theorem dvs_one (l : List Du) : OneC (dvs l) := by
  intro r hr
  obtain ⟨p, _, rfl⟩ := List.mem_map.1 hr
  exact ⟨rfl, rfl⟩
theorem hvs_append (a b : List Hd) : hvs (a ++ b) = hvs a ++ hvs b := by simp [hvs]
theorem dvs_append (a b : List Du) : dvs (a ++ b) = dvs a ++ dvs b := by simp [dvs]
@[simp] theorem hvs_len (l : List Hd) : (hvs l).length = l.length := by simp [hvs]
@[simp] theorem dvs_len (l : List Du) : (dvs l).length = l.length := by simp [dvs]
theorem infoHeld : (Try.prog.info? 48).map (fun i => (i.zero, i.size, i.bytes)) = some (some (.agg #[.string ⟨#[]⟩, .int .i64 0]), 2, 24) := by kernel_rfl
theorem infoDue : (Try.prog.info? 51).map (fun i => (i.zero, i.size, i.bytes)) = some (some (.agg #[.int .i64 0, .int .i64 0]), 2, 16) := by kernel_rfl

structure Rk (w : World) (g : Nat) (A : Option Addr) (n c : Nat) (B : Option Addr) (m d : Nat) (l : List Hd) (ds : List Du) : Prop where
  bk : Bk w g 30 #[.slice A n c, .slice B m d]
  h : Po w 48 A n c (hvs l)
  d : Po w 51 B m d (dvs ds)
def RefL (w : World) (g : Nat) (F : List Nat) (l : List Hd) (ds : List Du) : Prop := ∃ A n c B m d, Rk w g A n c B m d l ds ∧ F = g :: (blks A ++ blks B)
def Rfd (w : World) (g : Nat) (F : List Nat) (v : Value) (l : List Hd) (ds : List Du) (e : Ending) (w' : World) : Prop :=
  e = .returned v ∧ ∃ F', RefL w' g F' l ds ∧ Only F w w' ∧ ∀ k ∈ F', k ∈ F ∨ w.heap.size ≤ k
section
variable {w w' : World} {g n c m d : Nat} {A B : Option Addr} {l : List Hd} {ds : List Du} {rs F : List Nat}
theorem Rk.lt (h : Rk w g A n c B m d l ds) : ∀ k ∈ g :: (blks A ++ blks B), k < w.heap.size := by
  intro k hk
  rcases List.mem_cons.1 hk with rfl | hk
  · exact h.bk.lt
  · rcases List.mem_append.1 hk with hk | hk
    · exact h.h.lt hk
    · exact h.d.lt hk
theorem Rk.only (h : Rk w g A n c B m d l ds) (o : Only rs w w') (hn : ∀ k ∈ g :: (blks A ++ blks B), k ∉ rs) : Rk w' g A n c B m d l ds :=
  ⟨h.bk.only o (hn g (by simp)), h.h.only o (fun x hx => hn x (by simp [hx])), h.d.only o (fun x hx => hn x (by simp [hx]))⟩
theorem Rk.keep (h : Rk w g A n c B m d l ds) (o : Only [] w w') : Rk w' g A n c B m d l ds := h.only o (fun _ _ hm => nomatch hm)
theorem RefL.only (h : RefL w g F l ds) (o : Only rs w w') (hn : ∀ k ∈ F, k ∉ rs) : RefL w' g F l ds := by
  obtain ⟨A, n, c, B, m, d, h, rfl⟩ := h
  exact ⟨A, n, c, B, m, d, h.only o hn, rfl⟩
theorem RefL.keep (h : RefL w g F l ds) (o : Only [] w w') : RefL w' g F l ds := h.only o (fun _ _ hm => nomatch hm)
theorem RefL.lt (h : RefL w g F l ds) : ∀ k ∈ F, k < w.heap.size := by
  obtain ⟨A, n, c, B, m, d, h, rfl⟩ := h
  exact h.lt
theorem Rk.cells (h : Rk w g A n c B m d l ds) : w.cell? ⟨g, 0, none⟩ = some (.slice A n c) ∧ w.cell? ⟨g, 1, none⟩ = some (.slice B m d) := ⟨by rw [h.bk.cell]; rfl, by rw [h.bk.cell]; rfl⟩
theorem held_none {l : List Hd} {u : ByteArray} (h : ∀ i (hi : i < l.length), (l[i]).1 ≠ u) : holdL l u = none := by
  unfold holdL
  rw [findL_none.2 (fun x hx => by obtain ⟨i, hi, rfl⟩ := List.getElem_of_mem hx; exact h i hi)]
  rfl
theorem held_some {l : List Hd} {u : ByteArray} {k : Nat} (hk : k < l.length) (h : ∀ i (hi : i < l.length), i < k → (l[i]).1 ≠ u) (e : (l[k]).1 = u) : holdL l u = some (l[k]).2 := by
  unfold holdL findL
  have : l.find? (fun x => decide (x.1 = u)) = some l[k] := by
    rw [List.find?_eq_some_iff_append]
    refine ⟨by simpa using e, l.take k, l.drop (k + 1), ?_, fun a ha => ?_⟩
    · rw [← List.drop_eq_getElem_cons hk, List.take_append_drop]
    · obtain ⟨i, hi, rfl⟩ := List.getElem_of_mem ha
      rw [List.length_take] at hi
      rw [List.getElem_take]
      simpa using h i (by omega) (by omega)
  rw [this]
  rfl
set_option maxRecDepth 100000 in
set_option maxHeartbeats 4000000 in
theorem refHolder_any (h : Rk w g A n c B m d l ds) (u : ByteArray) (hl : l.length ≤ 1000000) :
    Calls Try.prog 20 #[.pointer (some ⟨g, 0, none⟩), .string u] w fun e w' => e = .returned (.tuple #[.int .i64 ((holdL l u).getD 0), .bool (holdL l u).isSome]) ∧ w = w' := by
  obtain ⟨c0, c1⟩ := h.cells
  have hR := h.h.reads
  have hn : l.length = n := by simpa using hR.1
  have HNO := Lib.hid (fun (hh : ∀ i (hi : i < l.length), (l[i]).1 ≠ u) => held_none hh)
  have HYES := Lib.hid (fun k (hk : k < l.length) (hh : ∀ i (hi : i < l.length), i < k → (l[i]).1 ≠ u) (e : (l[k]).1 = u) => held_some hk hh e)
  obtain ⟨q, hq⟩ : ∃ q, q = holdL l u := ⟨_, rfl⟩
  rw [← hq]
  have HQ := Lib.hid hq
  clear hq h
  have hnb : n ≤ 1000000 := by omega
  have HN := Lib.hid hn
  clear hl hn
  go_enter Try.func20, Try.ntmps20
  go_wp2
  go_loop [6] (fun i => ∃ k : Nat, k ≤ n ∧ i = .int .i64 (k : Int) ∧ Hid (∀ i (hi : i < l.length), i < k → (l[i]).1 ≠ u)) (fun i => n - (intOf i).toNat)
  case atStart => exact ⟨0, Nat.zero_le _, rfl, fun i _ h => absurd h (by omega)⟩
  case round =>
    obtain ⟨k, hk, rfl, HK⟩ := hrel
    by_cases hlt : k < n
    · have h1 : (k : Int) < (n : Int) := by omega
      have hkl : k < l.length := by rw [HN.out]; exact hlt
      have hkv : k < (hvs l).length := by simpa using hkl
      obtain ⟨ad, rfl, d0, d1⟩ := hR.at_ hkv
      have ev : (hvs l)[k] = (.string (l[k]).1, .int .i64 (l[k]).2) := by simp [hvs]
      rw [ev] at d0 d1
      dsimp only at d0 d1
      have HYK := Lib.hid (HYES.out k hkl HK.out)
      have HKN : Hid ((l[k]).1 ≠ u → ∀ i (hi : i < l.length), i < k + 1 → (l[i]).1 ≠ u) := by
        intro hne i hi hik
        rcases Nat.lt_succ_iff_lt_or_eq.1 hik with h | h
        · exact HK.out i hi h
        · subst h; exact hne
      generalize (l[k]).1 = s at d0 HYK HKN
      generalize (l[k]).2 = v at d1 HYK
      by_cases hs : s = u
      · subst hs
        have hss : (s.toList == s.toList) = true := by simp
        go_wp2
        go_ret2
        have e := HYK.out (by first | rfl | trivial)
        rw [HQ.out, e]
        exact ⟨rfl, rfl⟩
      · have hss : (s.toList == u.toList) = false := by rw [name_eq]; simpa using hs
        have HN3 := Lib.hid (HKN.out hs)
        go_wp2
        go_round
        case rel => exact ⟨k + 1, by omega, by go_num, HN3.out⟩
        case measure => simp [intOf]; omega
    · have h1 : ¬ (k : Int) < (n : Int) := by omega
      have e : q = none := HQ.out.trans (HNO.out fun i hi => HK.out i hi (by have := HN.out; omega))
      subst e
      go_wp2
      go_ret2
      exact ⟨rfl, rfl⟩
end
end Go.Proofs.Ytmjkdfneohpbjaa
