/-
  lock: Forget, Touch, Free.
-/
import Derived.Test.YtmjkdfneohpbjaaQTake
namespace Go.Proofs.Ytmjkdfneohpbjaa
open Go.RowKit Go.Maps Go.Shelf

section
variable {w : World} {g : Nat} {hb db : Option Nat} {l : List Hd} {ds : List Du}
set_option maxRecDepth 100000 in
set_option maxHeartbeats 4000000 in
theorem forget_any (h : Lk w g hb db l ds) (c : Int) (hc : -9223372036854775808 ≤ c ∧ c ≤ 9223372036854775807) :
    Calls Try.prog 15 #[.pointer (some ⟨g, 0, none⟩), .int .i64 c] w (Lkd w g (fpL g hb db) (.tuple #[]) l (delI ds c)) := by
  obtain ⟨c0, c1⟩ := h.cells
  have hkey := keyI_of c hc
  have H := Lib.hid h
  cases db with
  | none =>
    have HE : Hid (ds = []) := h.iv
    have hdn : ∀ ty W, (Builtin.delete_ #[43, 3] ty #[.map none, .int .i64 c]).run Try.prog W = .ok (.tuple #[]) W := fun ty W => Maps.drop_nil keyedI Try.underlying43 hkey ty
    clear h
    go_enter Try.func15, Try.ntmps15
    go_wp2
    go_end0
    refine ⟨rfl, _, ⟨hb, none, ?_, rfl⟩, Only.refl _ _, fun _ hk => .inl hk⟩
    have e := HE.out
    have H2 := H.out
    subst e
    exact H2
  | some m =>
    have hD := Lib.hid (del_DI ds c)
    have hown := h.ownD
    clear h
    go_enter Try.func15, Try.ntmps15
    go_wp2_with (at_delete; refine wpList_delete_own _ rfl _ _ 43 3 rfl 3 keyedI Try.underlying43 (heldP isI) m ds.length (DI ds) rfl hown _ (keyI c) rfl hkey ?_; intro w2 hown2 hturn2)
    go_end0
    have o2 : Only [m] w w2 := Only.of_turned hturn2
    rw [hD.out] at hown2
    exact ⟨rfl, _, ⟨hb, some m, H.out.turnD (IvAt.of hown2) o2, rfl⟩, o2.mono (fun x hx => by simp at hx; subst hx; exact .inl (by simp [fpL])), fun _ hk => .inl hk⟩

set_option maxRecDepth 100000 in
set_option maxHeartbeats 4000000 in
theorem touch_any (h : Lk w g hb db l ds) (c now lim : Int) (hc : -9223372036854775808 ≤ c ∧ c ≤ 9223372036854775807) (hn : 0 ≤ now ∧ now ≤ 1099511627776) (hl : 0 ≤ lim ∧ lim ≤ 1099511627776) (hds : ds.length ≤ 1000000) :
    Calls Try.prog 13 #[.pointer (some ⟨g, 0, none⟩), .int .i64 c, .int .i64 now, .int .i64 lim] w (Lkd w g (fpL g hb db) (.tuple #[]) l (putI (c, now + lim) ds)) := by
  obtain ⟨c0, c1⟩ := h.cells
  have hkey := keyI_of c hc
  have hmm := @run_makeMap Try.prog
  have hq0 : ∀ W, (binOp .eql 43 (.map none) (.map none)).run Try.prog W = .ok (.bool true) W := fun W => eql_mapG Try.underlying43 W none
  have hq1 : ∀ W m, (binOp .eql 43 (.map (some m)) (.map none)).run Try.prog W = .ok (.bool false) W := fun W m => eql_mapG Try.underlying43 W (some m)
  have hc0 : heldP isI (.int .i64 (now + lim)) = some (.held (.int .i64 (now + lim)), []) := heldP_mk rfl
  have HP := Lib.hid (put_DI (c, now + lim) ds)
  have hw1 : IntKind.i64.wrap (9223372036854775807 - lim) = 9223372036854775807 - lim := IntWalk.i64_in _ (by omega)
  have hw2 : IntKind.i64.wrap (now + lim) = now + lim := IntWalk.i64_in _ (by omega)
  have hg1 : ¬ (now > 9223372036854775807 - lim) := by omega
  have hg2 : ¬ (lim < 0) := by omega
  cases db with
  | none =>
    obtain rfl : ds = [] := h.iv
    obtain ⟨H1, O1⟩ := h.newD
    have hsz : (w.setCell ⟨g, 1, none⟩ (.map (some w.heap.size))).heap.size = w.heap.size := by simp [World.setCell]
    have hgz : g < w.heap.size := h.bk.lt
    have hfr := h.bk.free 1
    have HH1 := Lib.hid H1
    have HO1 := Lib.hid O1
    have hown := H1.ownD
    have d1 := H1.cells.2
    clear h H1 O1
    go_enter Try.func13, Try.ntmps13
    go_wp2_with (first
      | (at_mapUpdate; refine wpList_mapUpdate_own _ rfl _ _ _ 43 rfl 3 3 keyedI Try.underlying43 (heldP isI) w.heap.size 0 (DI []) rfl hown (by unfold maxLen; omega) _ _ (keyI c) rfl rfl hkey (.held (.int .i64 (now + lim))) [] hc0 ?_; intro w3 hout3 hg3; go_frame))
    all_goals
      go_end0
      have o3 := Only.of_grown hg3
      simp only [Option.toList_some] at o3
      rw [HP.out] at hout3
      refine ⟨rfl, _, ⟨hb, some w.heap.size, HH1.out.turnD (IvAt.of hout3) o3, rfl⟩, ((HO1.out.trans o3 (fun x hx => by simp at hx; subst hx; exact .inr (Nat.le_refl _)))).mono (fun x hx => by simp at hx; subst hx; exact .inl (by simp [fpL])), fun k hk => ?_⟩
      · simp only [fpL, Option.toList_some, Option.toList_none, List.append_nil, List.mem_cons, List.mem_append, List.not_mem_nil, or_false] at hk ⊢
        rcases hk with rfl | hk | rfl
        · exact .inl (.inl rfl)
        · exact .inl (.inr hk)
        · exact .inr (Nat.le_refl _)
  | some m =>
    have H := Lib.hid h
    have hown := h.ownD
    clear h
    go_enter Try.func13, Try.ntmps13
    go_wp2_with (first
      | (at_mapUpdate; refine wpList_mapUpdate_own _ rfl _ _ _ 43 rfl 3 3 keyedI Try.underlying43 (heldP isI) m ds.length (DI ds) rfl hown (by unfold maxLen; omega) _ _ (keyI c) rfl rfl hkey (.held (.int .i64 (now + lim))) [] hc0 ?_; intro w3 hout3 hg3; go_frame))
    all_goals
      go_end0
      have o3 := Only.of_grown hg3
      simp only [Option.toList_some] at o3
      rw [HP.out] at hout3
      exact ⟨rfl, _, ⟨hb, some m, H.out.turnD (IvAt.of hout3) o3, rfl⟩, o3.mono (fun x hx => by simp at hx; subst hx; exact .inl (by simp [fpL])), fun _ hk => .inl hk⟩

/-- What Free strikes. -/
def frees (c : Int) (_ : Lit) : DataW Value → Bool
  | .held (.int .i64 v) => decide (v = c)
  | _ => false
theorem frees_held (c : Int) (kl : Lit) (v : Int) : frees c kl (.held (.int .i64 v)) = decide (v = c) := rfl
theorem free_DK (l : List Hd) (c : Int) : Lib.deleteFuncD (frees c) (DK (kvI l)) = DK (kvI (freeL l c)) := by
  show DataW.map (((kvI l).map entK).filter fun p => !frees c p.1 p.2) = DataW.map ((kvI (freeL l c)).map entK)
  congr 1
  unfold kvI freeL
  rw [List.map_map, List.map_map, List.filter_map]
  rfl
set_option maxHeartbeats 400000 in
theorem free1_any (k : Value) (v c : Int) (bx : Nat) (W : World) (hx : W.cell? ⟨bx, 0, none⟩ = some (.int .i64 c)) :
    Calls Try.prog 24 (#[k, .int .i64 v] ++ #[.pointer (some ⟨bx, 0, none⟩)]) W fun e w' => e = .returned (.bool (decide (v = c))) ∧ w' = W := by
  obtain ⟨q, hq⟩ : ∃ q, q = decide (v = c) := ⟨_, rfl⟩
  have hb2 : (v == c) = q := by rw [hq]; by_cases e : v = c <;> simp [e]
  rw [← hq]
  clear hq
  go_enter Try.func24, Try.ntmps24
  go_wp2
  go_ret
  exact ⟨by rw [← hb2]; rfl, rfl⟩
set_option maxRecDepth 100000 in
set_option maxHeartbeats 4000000 in
theorem free_any (h : Lk w g hb db l ds) (c : Int) :
    Calls Try.prog 11 #[.pointer (some ⟨g, 0, none⟩), .int .i64 c] w (Lkd w g (fpL g hb db) (.tuple #[]) (freeL l c) ds) := by
  have hlt := h.lt
  have h1 : Lk (w.alloc (.cells #[.int .i64 c] 3)) g hb db l ds := h.keep ((Only.refl [] w).alloc _)
  have O1 : Only [] w (w.alloc (.cells #[.int .i64 c] 3)) := (Only.refl [] w).alloc _
  obtain ⟨c0, c1⟩ := h1.cells
  have hbox : (w.alloc (.cells #[.int .i64 c] 3)).cell? ⟨w.heap.size, 0, none⟩ = some (.int .i64 c) := by rw [World.cell?_alloc_at _ _ _ _ (by simp)]; rfl
  have eg : ∀ args w, (callFunc 24 args).run Try.prog w = .ok (.enter 24 args) w := enters_of Try.func24 (by kernel_rfl) rfl
  have H := Lib.hid h1
  have HO := Lib.hid O1
  cases hb with
  | none =>
    have HC : Hid (Calls Try.prog 23 #[.map none, .func (.func 24) #[] #[.pointer (some ⟨w.heap.size, 0, none⟩)]] (w.alloc (.cells #[.int .i64 c] 3)) (fun e w' => e = .returned (.tuple #[]) ∧ w' = (w.alloc (.cells #[.int .i64 c] 3)).alloc (.mapIter none 0 #[] 0))) := AnyDf.maps_DeleteFunc_nil Try.delH _ _
    have HE : Hid (l = []) := hvis_none h.hv
    clear h h1 O1 c1 hbox eg
    go_enter Try.func11, Try.ntmps11
    go_wp2_with (go_at_call 23; refine HC.out.mono ?_; rintro e w' ⟨rfl, rfl⟩)
    go_end0
    have e := HE.out
    refine ⟨rfl, _, ⟨none, db, ?_, rfl⟩, (HO.out.alloc _).mono (fun _ hx => nomatch hx), fun _ hk => .inl hk⟩
    have := H.out.keep ((Only.refl [] _).alloc (.mapIter none 0 #[] 0))
    subst e
    exact this
  | some m =>
    have hml : m < w.heap.size := hlt m (by simp [fpL])
    have hown := h1.ownH
    have HC : Hid (Calls Try.prog 23 #[.map (some m), .func (.func 24) #[] #[.pointer (some ⟨w.heap.size, 0, none⟩)]] (w.alloc (.cells #[.int .i64 c] 3)) (fun e w' => e = .returned (.tuple #[]) ∧ w'.ownsMap Try.prog 9 (heldP isI) m (kvI l).length (Lib.deleteFuncD (frees c) (DK (kvI l))) ∧ (w.alloc (.cells #[.int .i64 c] 3)).grownBy w' (some m))) :=
      AnyDf.maps_DeleteFunc Try.delH keyed (heldP isI) (frees c) 24 _ m _ _ _ eg hown (fun W key val kl yd yp hgW _ hv => by
        obtain ⟨hp, hy⟩ := heldP_inv hv
        obtain ⟨v, rfl⟩ := isI_inv hp
        obtain rfl : yd = .held (.int .i64 v) := congrArg Prod.fst hy
        exact (free1_any key v c w.heap.size W (hgW.cell hbox (fun e => by have := Option.some.inj e; simp at this; omega))).mono fun _ _ ⟨he, hw⟩ => ⟨he, hw ▸ World.grownBy.refl _ _⟩)
    have HD := Lib.hid (free_DK l c)
    clear h h1 O1 c1 hbox eg hown
    go_enter Try.func11, Try.ntmps11
    go_wp2_with (go_at_call 23; refine HC.out.mono ?_; rintro e w' ⟨rfl, k1, k2⟩)
    go_end0
    have o3 := Only.of_grown k2
    simp only [Option.toList_some] at o3
    rw [HD.out] at k1
    exact ⟨rfl, _, ⟨some m, db, H.out.turnH (KvAt.of k1) o3, rfl⟩, ((HO.out.mono (ss := [m]) (fun _ hx => nomatch hx)).trans o3 (fun x hx => .inl hx)).mono (fun x hx => by simp at hx; subst hx; exact .inl (by simp [fpL])), fun _ hk => .inl hk⟩
end
end Go.Proofs.Ytmjkdfneohpbjaa
