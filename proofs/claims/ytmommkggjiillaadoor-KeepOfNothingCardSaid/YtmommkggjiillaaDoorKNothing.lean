/-
  The walk of the law KeepOfNothing.
-/
import Derived.Test.YtmommkggjiillaaDoorKKnown
import Derived.Laws.MakeOwn
import Derived.Laws.IdiomStrings
namespace Go.Proofs.YtmommkggjiillaaDoor
open Go.RowKit Go.Maps

/-- k bytes of nought, laid anew; as a text. -/
def zeros (k : Nat) : Array Value := (Array.replicate k (.int .u8 0))
def zeroStr (k : Nat) : ByteArray := ⟨(List.replicate k (0 : UInt8)).toArray⟩
theorem make_zeros (k : Nat) (hk : k ≤ 1048576) (W : World) :
    (Instr.makeSlice 32 (.int .i64 (k : Int)) (.int .i64 (k : Int))).run Tryd.prog W = .ok (.slice (some ⟨W.heap.size, 0, none⟩) k k) (W.alloc (.cells (zeros k) 5)) := by
  obtain ⟨i0, hi, hz0, hz1, hz2⟩ := info_parts infoByte
  have hr := run_make (P := Tryd.prog) W 32 5 i0 _ Tryd.underlying32 hi hz0 .i64 .i64 (k : Int) (k : Int) (by omega) (by omega) (by rw [hz2]; omega) (by omega)
  simp only [Int.toNat_natCast] at hr
  rw [hr]
  have : madeCells (Value.cells (.int .u8 0)) (k * i0.size) = zeros k := by
    rw [hz1, Nat.mul_one]
    unfold zeros madeCells
    apply Array.ext
    · simp
    · intro i h1 h2
      simp [Value.cells, Nat.mod_one]
  rw [this]
theorem zero_cell (W : World) (k j : Nat) (hj : j < k) : (W.alloc (.cells (zeros k) 5)).cell? ((⟨W.heap.size, 0, none⟩ : Addr).add j) = some (.int .u8 0) := by
  have hb := Bk.new W 5 (zeros k)
  rw [add_none, Nat.zero_add, hb.cell]
  unfold zeros
  simp [hj]
theorem str_zeros (k : Nat) (W : World) (g : Nat) (hg : g = W.heap.size) :
    (convert 32 9 (.slice (some ⟨g, 0, none⟩) k k)).run Tryd.prog (W.alloc (.cells (zeros k) 5)) = .ok (.string (zeroStr k)) (W.alloc (.cells (zeros k) 5)) := by
  subst hg
  have h := run_convert_bytes_back (P := Tryd.prog) (W.alloc (.cells (zeros k) 5)) 32 9 5 ⟨W.heap.size, 0, none⟩ k (List.replicate k (0 : UInt8)) Tryd.underlying32 Tryd.underlying5 Tryd.underlying9 (fun j hj => by
    rw [zero_cell W k j (by simpa using hj)]
    simp)
  rw [List.length_replicate] at h
  exact h
theorem zeroStr_size (k : Nat) : (zeroStr k).size = k := by
  show (List.replicate k (0 : UInt8)).toArray.size = k
  simp

set_option maxRecDepth 100000 in
set_option maxHeartbeats 2000000 in
theorem nothing_any (A : Option Addr) (n c : Nat) (b : List UInt8) (long : Int) (w : World) (hs : Sl w A n (bvs b)) (hn : n ≤ 140737488351232) (ht : Tab w) :
    Calls Tryd.prog 5 #[.slice A n c, .int .i64 long] w fun e w' => e = .returned (.bool true) ∧ Only [] w w' := by
  by_cases hbig : 5000 < n
  · have hbig' : (5000 : Int) < (n : Int) := by omega
    clear hs ht
    go_enter Tryd.func5, Tryd.ntmps5
    go_wp2
    go_ret
    exact ⟨rfl, Only.refl _ _⟩
  · have hbig' : (n : Int) ≤ 5000 := by omega
    by_cases hlo : long < 0
    · clear hs ht
      go_enter Tryd.func5, Tryd.ntmps5
      go_wp2
      go_ret
      exact ⟨rfl, Only.refl _ _⟩
    by_cases hhi : 100 < long
    · clear hs ht
      go_enter Tryd.func5, Tryd.ntmps5
      go_wp2
      go_ret
      exact ⟨rfl, Only.refl _ _⟩
    obtain ⟨k, rfl⟩ : ∃ k : Nat, long = (k : Int) := ⟨long.toNat, by omega⟩
    have hlen : b.length = n := by simpa using hs.len
    have HS := Lib.hid hs
    have HT := Lib.hid ht
    obtain ⟨S0, hS0⟩ : ∃ S0 : St, S0 = ⟨1048576, [], none⟩ := ⟨_, rfl⟩
    have HNEW := Lib.hid (new_any (w := w) 1048576 (by omega))
    rw [← hS0] at HNEW
    have h0 : (0 : Int) ≤ (k : Int) := by omega
    have h100 : (k : Int) ≤ 100 := by omega
    have hmk := fun W => make_zeros k (by omega) W
    obtain ⟨z, hz⟩ : ∃ z, z = zeroStr k := ⟨_, rfl⟩
    have hcv := fun (W : World) (g : Nat) (hg : g = W.heap.size) => str_zeros k W g hg
    rw [← hz] at hcv
    have hzs : z.size = k := by rw [hz]; exact zeroStr_size k
    have HSAVE := Lib.hid (fun (W : World) (d : Nat) (F : List Nat) (D : Disk W d F S0) (A : Option Addr) (c : Nat) (hr : Rw W A 1 [b]) (ht : Tab W) => save_any D z A 1 c [b] b (by simp) hr ht (by decide) (by omega))
    have hwant : saveE S0 z b = if k < 1 ∨ 60 < k then 1 else 0 := by
      by_cases hk : k < 1 ∨ 60 < k
      · rw [if_pos hk]
        have : okLen z = false := by unfold okLen; rw [hzs]; simp; omega
        unfold saveE; rw [this]; rfl
      · rw [if_neg hk]
        have hc : Calm S0 (0 + (12 + b.length)) (0 + 1) := by rw [hS0]; exact calm_new 1048576 (by omega) (by decide)
        exact (save_calm hc (by unfold okLen; rw [hzs]; simp; omega)).1
    rcases (by omega : k < 1 ∨ 60 < k ∨ ((1 : Int) ≤ (k : Int) ∧ (k : Int) ≤ 60)) with hk | hk | ⟨hk, hk'⟩
    all_goals
      first
        | rw [if_pos (by omega)] at hwant
        | rw [if_neg (by omega)] at hwant
      rw [hwant] at HSAVE
      clear hS0 hs ht hlen hz hzs hwant
      have HM := Lib.hid hmk
      have HC := Lib.hid hcv
      clear hmk hcv
      go_enter Tryd.func5, Tryd.ntmps5
      go_wp2_with (first
        | (go_at_call 16; refine (clear_nil _ _).mono ?_; rintro e w4 ⟨rfl, rfl⟩)
        | (go_at_call 11; refine (save_nil _ _).mono ?_; rintro e w3 ⟨rfl, rfl⟩)
        | (go_at_call 13; refine (load_nil _).mono ?_; rintro e w2 ⟨rfl, rfl⟩)
        | (go_at_call 9; refine HNEW.out.mono ?_; clear HNEW; rintro e w1 ⟨d, rfl, D1, O1, hd⟩; have B1 : ∀ x ∈ [d], w.heap.size ≤ x := (fun x hx => by simp at hx; rw [hx]; exact hd)))
      have OL : Only [] w1 ((w1.alloc (.cells #[.slice A n c] 32)).alloc (.cells (zeros k) 5)) := ((Only.refl [] w1).alloc _).alloc _
      have OM := Lib.hid (OL.alloc (.cells #[.slice A n c] 32))
      have HL := Lib.hid OL
      clear OL
      have hmk := HM.out (w1.alloc (.cells #[.slice A n c] 32))
      have hcv := HC.out (w1.alloc (.cells #[.slice A n c] 32)) _ rfl
      rw [World.size_alloc] at hmk hcv
      clear HM HC
      go_wp2_with fail
      rw [hmk]
      clear hmk
      go_wp2_with fail
      clear hcv
      go_wp2_with (first
        | (go_at_call 8; refine (known_any _ (HT.out.keep Q5)).mono ?_; rintro e w6 ⟨rfl, O6⟩)
        | (go_at_call 11
           refine (HSAVE.out _ d [d] (D1.keep OM.out) (some ⟨w1.heap.size + 1 + 1, 0, none⟩) 1 (rw_one_at (HS.out.keep (O1.then HL.out)) _ (by rw [World.size_alloc, World.size_alloc])) (HT.out.keep (O1.then OM.out))).mono ?_; clear HSAVE
           rintro e w5 ⟨rfl, F5, D5, O5, B5⟩
           have Q5 := (O1.then OM.out).fresh O5 B1
           clear OM HL))
      go_ret
      exact ⟨rfl, Q5.then O6⟩
end Go.Proofs.YtmommkggjiillaaDoor
