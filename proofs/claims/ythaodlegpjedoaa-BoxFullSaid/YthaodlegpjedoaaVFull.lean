/-
  The law BoxFull.
-/
import Derived.Test.YthaodlegpjedoaaVKnown
import Derived.Laws.MakeOwn
import Derived.Deep.RegionLaw
import Derived.Deep.RegionHeld3
namespace Go.Proofs.Ythaodlegpjedoaa
open Go.RowKit Go.Instr

/-- k bytes of nought. -/
def zeros (k : Nat) : Array Value := (Array.replicate k (.int .u8 0))
theorem make_zeros (k : Nat) (hk : k ≤ 1048576) (W : World) :
    (Instr.makeSlice 29 (.int .i64 (k : Int)) (.int .i64 (k : Int))).run Try.prog W = .ok (.slice (some ⟨W.heap.size, 0, none⟩) k k) (W.alloc (.cells (zeros k) 5)) := by
  obtain ⟨i0, hi, hz0, hz1, hz2⟩ := info_parts infoByte
  have hr := run_make (P := Try.prog) W 29 5 i0 _ Try.underlying29 hi hz0 .i64 .i64 (k : Int) (k : Int) (by omega) (by omega) (by rw [hz2]; omega) (by omega)
  simp only [Int.toNat_natCast] at hr
  rw [hr]
  have : madeCells (Value.cells (.int .u8 0)) (k * i0.size) = zeros k := by
    rw [hz1, Nat.mul_one]
    unfold zeros madeCells
    apply Array.ext
    · simp
    · intro i h1 h2
      simp [Value.cells, Nat.mod_one]
  rw [this]
theorem zeros_sl (W : World) (k : Nat) : Sl (W.alloc (.cells (zeros k) 5)) (some ⟨W.heap.size, 0, none⟩) k (bvs (List.replicate k 0)) := by
  have h := Sl.of_bk (Bk.new W 5 (zeros k))
  have e1 : (zeros k).size = k := by simp [zeros]
  have e2 : (zeros k).toList = bvs (List.replicate k 0) := by
    unfold zeros bvs
    rw [Array.toList_replicate, List.map_replicate]
    rfl
  rw [e1, e2] at h
  exact h
def fm (u : Nat) : Mg := ⟨(u : Int) + 1, 0, (u : Int), []⟩
def fl (k : Nat) : List Mg := (List.range k).map fm
theorem fl_len (k : Nat) : (fl k).length = k := by simp [fl]
theorem fl_succ (k : Nat) : fl (k + 1) = fl k ++ [fm k] := by simp [fl, List.range_succ]
theorem fl_small (k : Nat) : ∀ m ∈ fl k, m.body.length ≤ 1000000 := by
  intro m hm
  simp only [fl, List.mem_map] at hm
  obtain ⟨u, _, rfl⟩ := hm
  exact Nat.zero_le _
/-- One more message. -/
theorem f_add {S : Nat → Prop} (w : World) (hS : ∀ y, w.heap.size ≤ y → S y) (k : Nat) (q : Int) (hq : (k : Int) + 1 + 1 = q) (hk : k < 24) (A : Option Addr) (c : Nat) (h : Ms S w A k (fl k)) :
    Calls Try.prog 31 #[.agg #[.string ⟨#[97]⟩, .int .i64 1, .int .i64 ((k : Int) + 1), .slice A k c], .int .i64 0, .int .i64 (k : Int), .slice none 0 0] w fun e w' =>
      ∃ A' c', e = .returned (.tuple #[.agg #[.string ⟨#[97]⟩, .int .i64 1, .int .i64 q, .slice A' (k + 1) c'], .int .i64 ((k : Int) + 1), .int .i64 0]) ∧ Ms S w' A' (k + 1) (fl (k + 1)) ∧ Only [] w w' := by
  subst hq
  have hl := fl_len k
  have he : addE ⟨[97], 1, (k : Int) + 1, fl k⟩ 0 (k : Int) 0 = 0 := by
    unfold addE
    rw [if_neg (by rw [Bool.not_eq_false]; exact markOk_iff.2 (by omega)), if_neg (by omega), if_neg (by show ¬ 24 ≤ (fl k).length; omega), if_neg (by show ¬ 1048576 ≤ (k : Int) + 1; omega)]
  have hA := Add_any (S := S) (w := w) ⟨[97], 1, (k : Int) + 1, fl k⟩ (A := A) (c := c) (by show Ms S w A (fl k).length (fl k); rw [hl]; exact h) (by show (fl k).length ≤ _; omega) (fl_small k) (by show (0 : Int) ≤ (k : Int) + 1; omega) hS 0 (k : Int) none 0 0 [] Sl.none_
  rw [bxv_eq hl] at hA
  refine hA.mono fun e w' hh => ?_
  obtain ⟨A', c', h1, h2, h3⟩ := hh
  have e1 : addB ⟨[97], 1, (k : Int) + 1, fl k⟩ 0 (k : Int) [] = ⟨[97], 1, (k : Int) + 1 + 1, fl (k + 1)⟩ := by unfold addB; rw [List.length_nil, he, if_pos rfl, fl_succ]; rfl
  have e2 : addU ⟨[97], 1, (k : Int) + 1, fl k⟩ 0 (k : Int) ([] : List UInt8).length = (k : Int) + 1 := by unfold addU; rw [List.length_nil, he, if_pos rfl]
  rw [e1] at h1 h2
  rw [e2, List.length_nil, he, bxv_eq (fl_len _)] at h1
  have h2' : Ms S w' A' (fl (k + 1)).length (fl (k + 1)) := h2
  rw [fl_len] at h2'
  exact ⟨A', c', h1, h2', h3⟩
/-- A box that is full, or a message that is too long. -/
theorem f_not {S : Nat → Prop} (w : World) (hS : ∀ y, w.heap.size ≤ y → S y) (k : Nat) (hk : k ≤ 24) (d er : Int) (A : Option Addr) (c : Nat) (P : Option Addr) (m cp : Nat) (p : List UInt8) (hp : Sl w P m (bvs p)) (he : addE ⟨[97], 1, (k : Int) + 1, fl k⟩ 0 d m = er) (hne : er ≠ 0) (h : Ms S w A k (fl k)) :
    Calls Try.prog 31 #[.agg #[.string ⟨#[97]⟩, .int .i64 1, .int .i64 ((k : Int) + 1), .slice A k c], .int .i64 0, .int .i64 d, .slice P m cp] w fun e w' =>
      ∃ A' c', e = .returned (.tuple #[.agg #[.string ⟨#[97]⟩, .int .i64 1, .int .i64 ((k : Int) + 1), .slice A' k c'], .int .i64 0, .int .i64 er]) ∧ Ms S w' A' k (fl k) ∧ Only [] w w' := by
  have hl := fl_len k
  have hpl : p.length = m := by simpa using hp.len
  have hA := Add_any (S := S) (w := w) ⟨[97], 1, (k : Int) + 1, fl k⟩ (A := A) (c := c) (by show Ms S w A (fl k).length (fl k); rw [hl]; exact h) (by show (fl k).length ≤ _; omega) (fl_small k) (by show (0 : Int) ≤ (k : Int) + 1; omega) hS 0 d P m cp p hp
  rw [bxv_eq hl] at hA
  refine hA.mono fun e w' hh => ?_
  obtain ⟨A', c', h1, h2, h3⟩ := hh
  have e1 : addB ⟨[97], 1, (k : Int) + 1, fl k⟩ 0 d p = ⟨[97], 1, (k : Int) + 1, fl k⟩ := by unfold addB; rw [hpl, he, if_neg hne]
  have e2 : addU ⟨[97], 1, (k : Int) + 1, fl k⟩ 0 d p.length = 0 := by unfold addU; rw [hpl, he, if_neg hne]
  rw [e1] at h1 h2
  rw [e2, hpl, he, bxv_eq hl] at h1
  have h2' : Ms S w' A' (fl k).length (fl k) := h2
  rw [hl] at h2'
  exact ⟨A', c', h1, h2', h3⟩
/-- The box variable in block g. -/
def FB (w : World) (g : Nat) (wr : World) (j : Nat) : Prop := ∃ A c, Bk wr g 26 #[.string ⟨#[97]⟩, .int .i64 1, .int .i64 ((j : Int) + 1), .slice A j c] ∧ Ms (fun y => y ≠ g) wr A j (fl j) ∧ Only [] w wr ∧ w.heap.size ≤ g
theorem FB.step {w w3 : World} {g j : Nat} {q : Int} {A3 : Option Addr} {c3 : Nat} {a0 a1 a2 a3 : Value} (B : Bk w3 g 26 #[a0, a1, a2, a3]) (M : Ms (fun y => y ≠ g) w3 A3 j (fl j)) (O : Only [] w w3) (hg : w.heap.size ≤ g) (hq : q = (j : Int) + 1) (o : Obj) :
    FB w g (((((w3.setCell ⟨g, 0, none⟩ (.string ⟨#[97]⟩)).setCell ⟨g, 1, none⟩ (.int .i64 1)).setCell ⟨g, 2, none⟩ (.int .i64 q)).setCell ⟨g, 3, none⟩ (.slice A3 j c3)).alloc o) j := by
  subst hq
  exact ⟨A3, c3, (bk_store B _ _ _ _).alloc o, (M.store (fun h => h rfl) _ _ _ _).keep ((Only.refl [] _).alloc o), (only_store O (.inr hg) _ _ _ _).alloc o, hg⟩
set_option maxRecDepth 100000 in
set_option maxHeartbeats 4000000 in
theorem full_any (n v : Int) (w : World) : Calls Try.prog 9 #[.int .i64 n, .int .i64 v] w fun e w' => e = .returned (.bool true) ∧ Only [] w w' := by
  by_cases h1 : n < 0
  · go_enter Try.func9, Try.ntmps9
    go_wp2
    go_ret
    exact ⟨rfl, Only.refl _ _⟩
  by_cases h2 : 30 < n
  · go_enter Try.func9, Try.ntmps9
    go_wp2
    go_ret
    exact ⟨rfl, Only.refl _ _⟩
  by_cases h3 : v < 1
  · go_enter Try.func9, Try.ntmps9
    go_wp2
    go_ret
    exact ⟨rfl, Only.refl _ _⟩
  by_cases h4 : 60 < v
  · go_enter Try.func9, Try.ntmps9
    go_wp2
    go_ret
    exact ⟨rfl, Only.refl _ _⟩
  obtain ⟨N, rfl⟩ := Int.eq_ofNat_of_zero_le (show 0 ≤ n by omega)
  obtain ⟨V, rfl⟩ := Int.eq_ofNat_of_zero_le (show 0 ≤ v by omega)
  have cN : Calls Try.prog 13 #[.string ⟨#[97]⟩, .int .i64 1] w fun e w' => e = .returned (.agg #[.string ⟨#[97]⟩, .int .i64 1, .int .i64 1, .slice none 0 0]) ∧ Only [] w w' := New_any [97] 1 w
  have HKN := Lib.hid known_any
  have h2' : (N : Int) ≤ 30 := by omega
  have h3' : (1 : Int) ≤ (V : Int) := by omega
  have h4' : (V : Int) ≤ 60 := by omega
  clear h2 h3 h4
  go_enter Try.func9, Try.ntmps9
  go_wp2_with (go_at_call 13; with_reducible refine cN.mono ?_; rintro e w1 ⟨rfl, O1⟩)
  have hB0 := Lib.hid (show FB w w1.heap.size (w1.alloc (.cells #[.string ⟨#[97]⟩, .int .i64 1, .int .i64 1, .slice none 0 0] 26)) 0 from ⟨none, 0, Bk.new _ _ _, Ms.nil _ _ _, O1.alloc _, O1.size⟩)
  generalize w1.alloc (.cells #[.string ⟨#[97]⟩, .int .i64 1, .int .i64 1, .slice none 0 0] 26) = w2 at hB0 ⊢
  generalize w1.heap.size = g at hB0 ⊢
  clear O1 cN
  go_loopw [6] (fun iv wr => ∃ k : Nat, iv = .int .i64 (k : Int) ∧ k ≤ N ∧ Hid (FB w g wr (min k 24))) (fun iv _ => N - (intOf iv).toNat)
  case atStart => exact ⟨0, rfl, Nat.zero_le _, hB0.out⟩
  case round =>
    obtain ⟨k, rfl, hk, HK⟩ := hrel
    obtain ⟨A, c, B, M, O, hgw⟩ := HK.out
    have HGW := Lib.hid hgw
    have hg := B.lt
    have hS : ∀ y, wr.heap.size ≤ y → y ≠ g := fun y hy => by omega
    by_cases hlt : k < N
    · have hlt' : (k : Int) < (N : Int) := by omega
      by_cases h24 : k < 24
      · have h24' : (k : Int) < 24 := by omega
        rw [show min k 24 = k by omega] at B M
        obtain ⟨q, hq⟩ : ∃ q, (k : Int) + 1 + 1 = q := ⟨_, rfl⟩
        have HC := Lib.hid (f_add wr hS k q hq h24 A c M)
        have HQ := Lib.hid hq
        clear hq
        obtain ⟨k0, k1, k2, k3⟩ := bk_four B
        have HB := Lib.hid B
        have HO := Lib.hid O
        clear HK B M O hS hgw
        go_wp2_with (go_at_call 31; with_reducible refine HC.out.mono ?_; rintro e w3 ⟨A3, c3, rfl, M3, O3⟩; have B3 := HB.out.only O3 (by simp); obtain ⟨j0, j1, j2, j3⟩ := bk_four B3; have f0 := B3.free 0; have f1 := B3.free 1; have f2 := B3.free 2; have f3 := B3.free 3; have hg3 : g < w3.heap.size := B3.lt)
        go_roundw
        case rel =>
          refine ⟨k + 1, by go_num, by omega, ?_⟩
          rw [show min (k + 1) 24 = k + 1 by omega]
          exact FB.step B3 M3 (HO.out.then O3) HGW.out (by rw [← HQ.out]; omega) _
        case measure => simp [intOf]; omega
      · have h24' : ¬ (k : Int) < 24 := by omega
        obtain ⟨j, hj⟩ : ∃ j, min k 24 = j := ⟨_, rfl⟩
        have hj24 : j = 24 := by omega
        have HJ : Hid (min (k + 1) 24 = j) := by show _ = _; omega
        rw [hj] at B M
        have hne6 : (6 : Int) ≠ 0 := by decide
        have he : addE ⟨[97], 1, (j : Int) + 1, fl j⟩ 0 (k : Int) 0 = 6 := by
          unfold addE
          rw [if_neg (by rw [Bool.not_eq_false]; exact markOk_iff.2 (by omega)), if_neg (by omega), if_pos (by show 24 ≤ (fl j).length; rw [fl_len]; omega)]
        have HC := Lib.hid (f_not wr hS j (by omega) (k : Int) 6 A c none 0 0 [] Sl.none_ he hne6 M)
        obtain ⟨k0, k1, k2, k3⟩ := bk_four B
        have HB := Lib.hid B
        have HO := Lib.hid O
        clear HK B M O hS hgw hj hj24 he
        go_wp2_with (go_at_call 31; with_reducible refine HC.out.mono ?_; rintro e w3 ⟨A3, c3, rfl, M3, O3⟩; have B3 := HB.out.only O3 (by simp); obtain ⟨j0, j1, j2, j3⟩ := bk_four B3; have f0 := B3.free 0; have f1 := B3.free 1; have f2 := B3.free 2; have f3 := B3.free 3; have hg3 : g < w3.heap.size := B3.lt)
        go_roundw
        case rel =>
          refine ⟨k + 1, by go_num, by omega, ?_⟩
          rw [HJ.out]
          exact FB.step B3 M3 (HO.out.then O3) HGW.out rfl _
        case measure => simp [intOf]; omega
    · obtain rfl : k = N := by omega
      obtain ⟨j, hj⟩ : ∃ j, min k 24 = j := ⟨_, rfl⟩
      rw [hj] at B M
      have HMIN : Hid (((k : Int) ≤ 24 ∧ ((j : Int) == (k : Int)) = true) ∨ (¬ (k : Int) ≤ 24 ∧ ((j : Int) == 24) = true)) := by
        show _ ∨ _
        rw [beq_iff_eq, beq_iff_eq]
        omega
      obtain ⟨T, hT⟩ : ∃ T, 1200 + V = T := ⟨_, rfl⟩
      have hwr : IntKind.i64.wrap (1200 + (V : Int)) = (T : Int) := by rw [IntWalk.i64_in _ (by omega)]; omega
      have hmk := fun W => make_zeros T (by omega) W
      have HC := Lib.hid (fun (W : World) (o : Only [] wr W) (Pp : Option Addr) (cp : Nat) (hp : Sl W Pp T (bvs (List.replicate T 0))) => f_not W (fun y hy => by have := o.size; omega) j (by omega) 0 5 A c Pp T cp (List.replicate T 0) hp (by
        unfold addE
        rw [if_neg (by decide), if_pos (by omega)]) (by decide) (M.keep o))
      obtain ⟨k0, k1, k2, k3⟩ := bk_four B
      have HB := Lib.hid B
      have HO := Lib.hid O
      have hZ := Lib.hid (fun W => zeros_sl W T)
      have hz2 := zeros_sl (wr.alloc (.cells #[.string ⟨#[]⟩, .int .i64 0, .int .i64 0, .slice none 0 0] 26)) T
      have hb2 := Bk.new (wr.alloc (.cells (zeros T) 5)) 26 #[.string ⟨#[]⟩, .int .i64 0, .int .i64 0, .slice none 0 0]
      rw [World.size_alloc] at hz2 hb2
      have HZ2 := Lib.hid hz2
      have HB2 := Lib.hid hb2
      have HB3 := Lib.hid ((Bk.new wr 26 #[.string ⟨#[]⟩, .int .i64 0, .int .i64 0, .slice none 0 0]).alloc (.cells (zeros T) 5))
      clear HK B M O hS hgw hj hT hz2 hb2
      go_wp2_with fail
      go_region_law (first
        | (go_simp; go_at_call 31; with_reducible refine (HC.out _ (((Only.refl [] wr).alloc _).drew) _ _ ((hZ.out wr).drew)).mono ?_; rintro e w3 ⟨A3, c3, rfl, M3, O3⟩; have hQ := Only.then (((Only.refl [] wr).alloc _).drew) O3; have i0 := hQ.cellSome k0 (by simp); have i1 := hQ.cellSome k1 (by simp); have i2 := hQ.cellSome k2 (by simp); have i3 := hQ.cellSome k3 (by simp); have hg3 : g < w3.heap.size := block_lt_of_cell i3; have HQ3 := Lib.hid (HO.out.then (Only.then (((Only.refl [] wr).alloc _).drew) O3)))
        | (go_simp; go_at_call 31; with_reducible refine (HC.out _ ((((Only.refl [] wr).alloc _).alloc _).drew) _ _ (((hZ.out wr).alloc _).drew)).mono ?_; rintro e w3 ⟨A3, c3, rfl, M3, O3⟩; have bb := HB2.out.drew.only O3 (by simp); obtain ⟨j0, j1, j2, j3⟩ := bk_four bb; have f0 := bb.free 0; have f1 := bb.free 1; have f2 := bb.free 2; have f3 := bb.free 3; have hQ := Only.then ((((Only.refl [] wr).alloc _).alloc _).drew) O3; have i0 := hQ.cellSome k0 (by simp); have i1 := hQ.cellSome k1 (by simp); have i2 := hQ.cellSome k2 (by simp); have i3 := hQ.cellSome k3 (by simp); have hg3 : g < w3.heap.size := block_lt_of_cell i3; have HQ3 := Lib.hid (HO.out.then (Only.then ((((Only.refl [] wr).alloc _).alloc _).drew) O3)))
        | (go_simp; go_at_call 31; with_reducible refine (HC.out _ ((((Only.refl [] wr).alloc _).alloc _).drew) _ _ (HZ2.out.drew)).mono ?_; rintro e w3 ⟨A3, c3, rfl, M3, O3⟩; have bb := HB3.out.drew.only O3 (by simp); obtain ⟨j0, j1, j2, j3⟩ := bk_four bb; have f0 := bb.free 0; have f1 := bb.free 1; have f2 := bb.free 2; have f3 := bb.free 3; have hQ := Only.then ((((Only.refl [] wr).alloc _).alloc _).drew) O3; have i0 := hQ.cellSome k0 (by simp); have i1 := hQ.cellSome k1 (by simp); have i2 := hQ.cellSome k2 (by simp); have i3 := hQ.cellSome k3 (by simp); have hg3 : g < w3.heap.size := block_lt_of_cell i3; have HQ3 := Lib.hid (HO.out.then (Only.then ((((Only.refl [] wr).alloc _).alloc _).drew) O3))))
      all_goals
        rcases HMIN.out with ⟨hm1, hm2⟩ | ⟨hm1, hm2⟩
        all_goals
          go_wp2_with (go_at_call 18; go_must (with_reducible refine (HKN.out _).mono ?_); rintro e w4 ⟨rfl, O4⟩)
          go_ret
          first
            | exact ⟨rfl, (HQ3.out.alloc _).then O4⟩
            | exact ⟨rfl, (only_store HQ3.out (.inr (by have := HO.out.size; omega)) _ _ _ _).then O4⟩
end Go.Proofs.Ythaodlegpjedoaa
