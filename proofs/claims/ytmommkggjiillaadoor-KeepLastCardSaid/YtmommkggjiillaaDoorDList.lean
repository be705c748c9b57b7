/-
  disk's List: slices.Sorted(maps.Keys(m)), by the shelf's contracts.
-/
import Derived.Test.YtmommkggjiillaaDoorDRename
import Derived.Shelf.SlIter.Nil
import Derived.Shelf.SortM.Plain
import Derived.Shelf.SortM.SortNone
import Derived.Sort.KeysCollected
namespace Go.Proofs.YtmommkggjiillaaDoor
open Go.RowKit Go.Maps Go.Sort Go.Shelf

theorem sorts_in (m : Nat) : AnyZ.SortsIn Tryd.prog Tryd.sorted48_ren Fence.wide m :=
  ⟨fun blk off cap ss W hH hblk hsz => callsIn_wide.2 (AnyM.slices_Sort_string Tryd.sort72 blk off cap ss W hH hblk hsz),
   fun p cap W => callsIn_wide.2 (AnyM.slices_Sort_string_none Tryd.sort72 p cap W)⟩
/-- The keys of any map: a function value over one new block. -/
theorem keys_in (mb : Option Nat) (W : World) : CallsIn Fence.wide 5 Tryd.prog 49 #[.map mb] W fun e w' =>
    e = .returned (.func (.func 73) #[] #[.pointer (some ⟨W.heap.size, 0, none⟩)]) ∧ w' = W.alloc (.cells #[.map mb] 57) :=
  AnyZ.keys_in Tryd.keys49 Fence.wide 5 trivial rfl mb W
/-- What slices.Sorted hands back of them. -/
def Keys (D : DataW Unit) (W : World) (e : Ending) (w' : World) : Prop :=
  ∃ (v : Value) (ss : List (List UInt8)), e = .returned v ∧ ss.Perm (strKeys D) ∧ w'.ownsRow W.heap.size 9 1 v ss.length ((ss.mergeSort (fun x y => decide (x ≤ y))).map encStr) ∧ (v = .slice none 0 0 ↔ ss = []) ∧ Below W.heap.size W w'
set_option maxHeartbeats 1000000 in
theorem sorted_map (b nn : Nat) (D0 : DataW Unit) (R : Value → Option (DataW Unit × List MemPlace)) (w : World) (hown : w.ownsMap Tryd.prog 9 R b nn D0) (hmax : Maps.size D0 ≤ maxLen) (hbytes : Maps.size D0 * 16 ≤ 140737488355328) :
    CallsIn Fence.wide 5 Tryd.prog 48 #[.func (.func 73) #[] #[.pointer (some ⟨w.heap.size, 0, none⟩)]] (w.alloc (.cells #[.map (some b)] 57))
      (Keys D0 (w.alloc (.cells #[.map (some b)] 57))) := by
  have hbl := hown.lt
  have hseq : SeqGives Fence.wide 2 Tryd.prog 73 #[.pointer (some ⟨w.heap.size, 0, none⟩)] encStr (fun ss => ss.Perm (strKeys D0)) (Maps.size D0) (w.alloc (.cells #[.map (some b)] 57)) :=
    AnyZ.keys_gives (ρ := Tryd.keys49_ren) { Tryd.keys49 with } Fence.wide _ trivial rfl (by omega) w.heap.size b nn D0 _ (by simp) (by simp) (by
      obtain ⟨es, clock, hb, Ft, hs, hD⟩ := hown
      exact ⟨es, clock, (Below.heap_alloc _ _ b hbl).trans hb, Ft, hs, hD⟩)
  exact AnyZ.sorted_in Tryd.sorted48 Fence.wide 5 trivial trivial trivial trivial rfl (by omega) (sorts_in _) (enters_of Tryd.func72 (by kernel_rfl) rfl) 73 #[.pointer (some ⟨w.heap.size, 0, none⟩)] trivial
    (enters_of Tryd.func73 (by kernel_rfl) rfl) _ _ hmax hbytes _ hseq
set_option maxHeartbeats 1000000 in
theorem sorted_none (w : World) :
    CallsIn Fence.wide 5 Tryd.prog 48 #[.func (.func 73) #[] #[.pointer (some ⟨w.heap.size, 0, none⟩)]] (w.alloc (.cells #[.map none] 57)) fun e w' => ∃ (v : Value) (ss : List (List UInt8)), e = .returned v ∧ ss = [] ∧
      w'.ownsRow (w.alloc (.cells #[.map none] 57)).heap.size 9 1 v ss.length ((ss.mergeSort (fun x y => decide (x ≤ y))).map encStr) ∧ (v = .slice none 0 0 ↔ ss = []) ∧ Below (w.alloc (.cells #[.map none] 57)).heap.size (w.alloc (.cells #[.map none] 57)) w' := by
  have hseq : SeqGives Fence.wide 2 Tryd.prog 73 #[.pointer (some ⟨w.heap.size, 0, none⟩)] encStr (fun ss : List (List UInt8) => ss = []) 0 (w.alloc (.cells #[.map none] 57)) :=
    AnyZ.keys_gives_nil (ρ := Tryd.keys49_ren) { Tryd.keys49 with } Fence.wide _ trivial rfl w.heap.size _ (by simp) (by simp)
  exact AnyZ.sorted_in Tryd.sorted48 Fence.wide 5 trivial trivial trivial trivial rfl (by omega) (sorts_in _) (enters_of Tryd.func72 (by kernel_rfl) rfl) 73 #[.pointer (some ⟨w.heap.size, 0, none⟩)] trivial
    (enters_of Tryd.func73 (by kernel_rfl) rfl) _ 0 (Nat.zero_le _) (by omega) _ hseq

/-- All names, in new memory. -/
def Names (ss : List ByteArray) (w : World) (e : Ending) (w' : World) : Prop :=
  ∃ A c, e = .returned (.slice A ss.length c) ∧ Own w' 9 A ss.length c (ss.map Value.string) ∧ Only [] w w' ∧ ∀ k ∈ blks A, w.heap.size ≤ k
theorem names_sorted {fs : List Fl} (h : fs.Pairwise fun f g => bef f.name g.name = true) {ss : List (List UInt8)} (hp : ss.Perm (fs.map fun f => f.name.data.toList)) : (ss.mergeSort (fun x y => decide (x ≤ y))).map encStr = (fs.map (·.name)).map Value.string := by
  have h1 := mergeSort_of_perm hp
  have h2 : (fs.map fun f => f.name.data.toList).mergeSort leB = fs.map fun f => f.name.data.toList := by
    refine List.mergeSort_of_pairwise ?_
    rw [List.pairwise_map]
    exact h.imp fun {a b} hab => by
      rw [bef_eq] at hab
      simpa [leB] using before_le _ _ hab
  have h3 : ss.mergeSort (fun x y => decide (x ≤ y)) = fs.map fun f => f.name.data.toList := h1.trans h2
  rw [h3, List.map_map, List.map_map]
  exact List.map_congr_left fun f _ => by simp [encStr]
theorem own_form {w : World} {base : Nat} {t : TypeId} {v : Value} {xs : List Value} {n : Nat} (h : w.ownsRow base t 1 v n xs) : ∃ A c, v = .slice A n c ∧ Own w t A n c xs ∧ ∀ k ∈ blks A, base ≤ k := by
  have h0 := h
  rcases h.2 with ⟨rfl, rfl⟩ | ⟨g, cap, cur, rfl, hb, r⟩
  · exact ⟨none, 0, rfl, own_base h0 (fun _ hk => by cases hk), fun _ hk => by cases hk⟩
  · exact ⟨_, _, rfl, own_base h0 (fun _ _ => Nat.zero_le _), fun k hk => by simp at hk; subst hk; exact hb⟩

section
variable {w : World} {d : Nat} {F : List Nat} {S : St}
theorem list_nil (w : World) : Calls Tryd.prog 26 #[.pointer none] w fun e w' => e = .returned (.slice none 0 0) ∧ w = w' := by
  go_enter Tryd.func26, Tryd.ntmps26
  go_wp2
  go_ret
  exact ⟨rfl, rfl⟩
set_option maxRecDepth 100000 in
set_option maxHeartbeats 1000000 in
theorem list_any (h : Disk w d F S) : Calls Tryd.prog 26 #[.pointer (some ⟨d, 0, none⟩)] w (Names (S.fs.map (·.name)) w) := by
  obtain ⟨lf, mb, cs, hk, h1, h2, h3, rfl⟩ := h
  obtain ⟨_, _, c2, _, _⟩ := hk.cell
  have hr := hk.good.rise
  have hlen := hk.good.len
  rw [h1] at hr hlen
  have hlc : cs.length = S.fs.length := by rw [← h1, List.length_map]
  have HNS := Lib.hid (fun ss (hp : List.Perm ss _) => names_sorted (ss := ss) hr hp)
  have hks : strKeys (Dm cs) = S.fs.map fun f => f.name.data.toList := by rw [keys_dm, ← h1, List.map_map]; rfl
  have HKS := Lib.hid hks
  have HI := Lib.hid h1
  have hmap := hk.map
  clear hk hks h2 h3 hr h1
  refine (callsIn_wide (n := 6)).1 ?_
  have hfK : Fence.wide.fn 49 := trivial
  have hfS : Fence.wide.fn 48 := trivial
  cases mb with
  | none =>
    have hcs : cs = [] := hmap
    have HE : Hid (S.fs = []) := by show _ = _; rw [← HI.out, hcs]; rfl
    clear hmap hcs hlc hlen
    refine callsIn_of_wp Tryd.func26 rfl trivial ?_ rfl
    simp only [Tryd.ntmps26, List.size_toArray, List.length_cons, List.length_nil, Nat.reduceAdd, Nat.reduceSub, Array.replicate_succ, Array.replicate_zero, List.push_toArray, List.append_toArray, List.nil_append, List.cons_append]
    gi_wp2_with (first
      | (gi_at_call 49; refine (keys_in _ _).mono ?_; rintro e w' ⟨rfl, rfl⟩)
      | (gi_at_call 48; refine (sorted_none w).mono ?_; rintro e w' ⟨v, ss, rfl, hS, hrow, hnil, hb⟩))
    go_ret
    refine ⟨none, 0, ?_, ?_, ((Only.refl [] w).alloc _).then (Only.of_below hb), fun _ h => by cases h⟩
    · rw [hnil.2 hS, HE.out]; rfl
    · rw [HE.out]; exact Own.nil _ _
  | some m =>
    have hmm : w.ownsMap Tryd.prog 9 ptrElem m cs.length (Dm cs) := hmap
    have HSO := Lib.hid (sorted_map m cs.length (Dm cs) ptrElem w hmm (by rw [size_dm]; unfold maxLen; omega) (by rw [size_dm]; omega))
    clear hmap hmm hlc hlen
    refine callsIn_of_wp Tryd.func26 rfl trivial ?_ rfl
    simp only [Tryd.ntmps26, List.size_toArray, List.length_cons, List.length_nil, Nat.reduceAdd, Nat.reduceSub, Array.replicate_succ, Array.replicate_zero, List.push_toArray, List.append_toArray, List.nil_append, List.cons_append]
    gi_wp2_with (first
      | (gi_at_call 49; refine (keys_in _ _).mono ?_; rintro e w' ⟨rfl, rfl⟩)
      | (gi_at_call 48; refine HSO.out.mono ?_; rintro e w' ⟨v, ss, rfl, hS, hrow, hnil, hb⟩))
    go_ret
    rw [HKS.out] at hS
    rw [HNS.out ss hS] at hrow
    have hl : ss.length = (S.fs.map (·.name)).length := by rw [hS.length_eq]; simp
    rw [hl] at hrow
    obtain ⟨A, c, rfl, ho, hbk⟩ := own_form hrow
    exact ⟨A, c, rfl, ho, ((Only.refl [] w).alloc _).then (Only.of_below hb), fun k hk => by have := hbk k hk; rw [World.size_alloc] at this; omega⟩
end
end Go.Proofs.YtmommkggjiillaaDoor
