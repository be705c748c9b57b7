/-
  frame.withSum, frame.Encode; the reference's Encode.
-/
import Derived.Test.YtblggoneifmoeaaDoorFour
import Derived.Test.YtblggoneifmoeaaDoorRefSum
namespace Go.Proofs.YtblggoneifmoeaaDoor
open Go.RowKit

/-- The call returns bytes in new memory, and a number; nothing that was there has turned. -/
def Fresh2 (w : World) (l : List UInt8) (x : Int) (e : Ending) (w' : World) : Prop :=
  ∃ A c, e = .returned (.tuple #[.slice A l.length c, .int .i64 x]) ∧ Own w' 5 A l.length c (bvs l) ∧ Only [] w w' ∧ ∀ k ∈ blks A, w.heap.size ≤ k
def Fresh3 (w : World) (l : List UInt8) (n x : Int) (e : Ending) (w' : World) : Prop :=
  ∃ A c, e = .returned (.tuple #[.slice A l.length c, .int .i64 n, .int .i64 x]) ∧ Own w' 5 A l.length c (bvs l) ∧ Only [] w w' ∧ ∀ k ∈ blks A, w.heap.size ≤ k

theorem withSum_rows (A : Option Addr) (n c : Nat) (ls : List (List UInt8)) (p q : List UInt8) (w : World) (hp : ls.flatten = p) (hq : p ++ four (sumOf p) = q) (hr : Rw w A n ls) (ht : Tab w) (hn : n ≤ 4611686018427387904) (hb : p.length ≤ 100000000000) :
    Calls Tryd.prog 58 #[.slice A n c] w (Fresh w q) := by
  have HP := Lib.hid hp
  have HJ := Lib.hid (fun (W : World) (o : Only [] w W) => join_rows A n c ls p W hp (hr.keep o) hn (by omega))
  have HS := Lib.hid (fun (W : World) (o : Only [] w W) => sum_rows A n c ls p W hp (hr.keep o) (ht.keep o) hn (by omega))
  have hlt := sumOf_lt p
  have hql : q.length ≤ 1000000000000 := by rw [← hq, List.length_append, four_len]; omega
  have HQ := Lib.hid hq
  clear hp hq
  go_enter Tryd.func58, Tryd.ntmps58
  go_wp2_with fail
  refine (HJ.out w (Only.refl _ _)).mono ?_
  rintro e w1 ⟨A1, c1, rfl, V1, O1, B1⟩
  go_wp2_with fail
  refine (HS.out w1 O1).mono ?_
  rintro e w' ⟨rfl, rfl⟩
  go_wp2_with fail
  refine (wordOf_any (sumOf p) w1 hlt).mono ?_
  rintro e w2 ⟨A2, c2, rfl, V2, O2, B2⟩
  go_wp2_with fail
  refine (join_two w2 A1 A2 c1 c2 _ 4 p (four (sumOf p)) q rfl (four_len _) HQ.out (V1.sl.keep O2) V2.sl hql).mono ?_
  rintro e w3 ⟨A3, c3, rfl, V3, O3, B3⟩
  go_wp2
  go_ret
  exact ⟨A3, c3, rfl, V3, (O1.then O2).then O3, fun k hk => Nat.le_trans (O1.then O2).size (B3 k hk)⟩

set_option maxRecDepth 100000 in
set_option maxHeartbeats 800000 in
theorem encode_rows (A : Option Addr) (n c : Nat) (ls : List (List UInt8)) (p : List UInt8) (w : World) (hp : ls.flatten = p) (hr : Rw w A n ls) (ht : Tab w) (hn : n ≤ 4611686018427387904) (hb : p.length ≤ 1048576) :
    Calls Tryd.prog 40 #[.slice A n c] w (Fresh2 w (record p) 0) := by
  have hl : ls.length = n := hr.len
  have HLl := Lib.hid hl
  have HCl : Hid (∀ k, n ≤ k → catLen ls k = p.length) := fun k hk => by rw [catLen_all ls (by omega), hp]
  have HCb : Hid (∀ k, catLen ls k ≤ 1048576) := fun k => by have := catLen_le ls k; rw [hp] at this; omega
  have HJ := Lib.hid (fun (W : World) (o : Only [] w W) => join_rows A n c ls p W hp (hr.keep o) hn (by omega))
  have hn' : n ≤ 4611686018427387904 := hn
  clear hl hp
  go_enter Tryd.func40, Tryd.ntmps40
  go_wp2_with fail
  go_loop [4, 10] (fun t i => ∃ k : Nat, k ≤ n ∧ i = .int .i64 k ∧ t = .int .i64 (catLen ls k : Nat)) (fun _ i => n - (intOf i).toNat)
  case atStart => exact ⟨0, Nat.zero_le _, rfl, rfl⟩
  case round =>
    obtain ⟨k, hk, rfl, rfl⟩ := hrel
    by_cases hlt : k < n
    · have hkl : k < ls.length := by rw [HLl.out]; exact hlt
      obtain ⟨ad, Ai, ci, rfl, hcell, _⟩ := hr.at_ hlt hkl
      have hle2 := HCb.out (k + 1)
      have HT := Lib.hid (catLen_succ ls k hkl)
      rw [HT.out] at hle2
      generalize (ls[k]'hkl).length = m at *
      generalize catLen ls k = s at *
      go_wp2_with fail
      go_round
      case rel => exact ⟨k + 1, by omega, by go_num, by rw [HT.out]; go_num⟩
      case measure => simp [intOf]; omega
    · rw [HCl.out k (by omega)]
      have h32 : ((p.length : Int) % 4294967296) = (p.length : Int) := by omega
      have HW := Lib.hid (fun (W : World) => wordOf_any p.length W (by omega))
      clear HCl HCb HLl
      go_wp2_with fail
      refine (HW.out w).mono ?_
      rintro e w1 ⟨A1, c1, rfl, V1, O1, B1⟩
      go_wp2_with fail
      have hal : Only [] w (w1.alloc (.cells #[.slice A1 4 c1] 23)) := O1.alloc _
      refine (withSum_rows (some ⟨w1.heap.size, 0, none⟩) 1 1 [four p.length] (four p.length) (heading p.length) _ (by simp) rfl (Rw.one (Bk.new _ _ _) (V1.sl.alloc _)) (ht.keep hal) (by omega) (by rw [four_len]; omega)).mono ?_
      rintro e w2 ⟨A2, c2, rfl, V2, O2, B2⟩
      have V2' : Own w2 5 A2 8 c2 (bvs (heading p.length)) := V2
      have P2 : Only [] w w2 := hal.then O2
      clear V1 V2 O1 O2 B1 hal
      go_wp2_with fail
      refine (HJ.out w2 P2).mono ?_
      rintro e w3 ⟨A3, c3, rfl, V3, O3, B3⟩
      go_wp2_with fail
      have hal : Only [] w (w3.alloc (.cells #[.slice A2 8 c2, .slice A3 p.length c3] 23)) := (P2.then O3).alloc _
      refine (withSum_rows (some ⟨w3.heap.size, 0, none⟩) 2 2 [heading p.length, p] (heading p.length ++ p) (record p) _ (by simp) rfl (Rw.two (Bk.new _ _ _) ((V2'.sl.keep O3).alloc _) (V3.sl.alloc _)) (ht.keep hal) (by omega) (by rw [List.length_append, heading_len]; omega)).mono ?_
      rintro e w4 ⟨A4, c4, rfl, V4, O4, B4⟩
      go_wp2
      go_ret2
      exact ⟨A4, c4, rfl, V4, hal.then O4, fun k hk => Nat.le_trans hal.size (B4 k hk)⟩

end Go.Proofs.YtblggoneifmoeaaDoor
