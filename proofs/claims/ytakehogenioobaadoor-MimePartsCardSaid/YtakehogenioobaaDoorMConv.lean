/-
  Texts laid as bytes that may be appended to; sums of texts; the laws' clean.
-/
import Derived.Test.YtakehogenioobaaDoorMLeaf
import Derived.Test.YtakehogenioobaaDoorMMsg
import Derived.Test.YtakehogenioobaaDoorGro
import Derived.Test.YtakehogenioobaaDoorHLow
namespace Go.Proofs.YtakehogenioobaaDoor
open Go.RowKit Go.Instr

/-- The bytes of a text, laid anew: they may be appended to. -/
theorem conv_gro (s : ByteArray) (hs : s.size ≤ 4096) (w : World) : ∃ w' c, (convert 9 24 (.string s)).run Tryd.prog w = .ok (.slice (some ⟨w.heap.size, 0, none⟩) s.size c) w' ∧ Gro w' (some ⟨w.heap.size, 0, none⟩) s.size c (bvs s.data.toList) ∧ Only [] w w' := by
  have hge := grownCap_ge w s.size 0 5
  have hmx := grownCap_le_maxLen w s.size 0 5 (by unfold maxLen; omega)
  have hnew := Lib.bytesWorld_at_new w 5 s
  have hsz : (Lib.bytesCells w 5 s).size = grownCap w s.size 0 5 := by
    unfold Lib.bytesCells
    rw [Array.size_append, Array.size_map, Array.size_replicate]
    have : s.data.size = s.size := rfl
    omega
  refine ⟨_, _, Lib.run_convert_string_bytes (P := Tryd.prog) w 9 24 5 s Tryd.underlying9 Tryd.underlying24 Tryd.underlying5, ?_, ?_⟩
  · refine ⟨by simp, hge, hmx, fun k hk => ?_, fun _ => ⟨w.heap.size, 0, rfl, fun j u hu => ?_, fun j hj => ⟨?_, ?_⟩⟩⟩
    · simp at hk
      subst hk
      rw [Lib.bytesWorld_size]
      omega
    · have hj : j < s.data.toList.length := by
        have := (List.getElem?_eq_some_iff.1 hu).1
        rwa [bvs_length] at this
      rw [bvs_get _ j hj] at hu
      rw [Nat.zero_add, Lib.bytesWorld_cell w 5 s j (by simpa using hj), List.getD_eq_getElem?_getD, List.getElem?_eq_getElem hj, ← hu]
      rfl
    · rw [Nat.zero_add]
      simp only [World.cell?, hnew]
      rw [Array.getElem?_eq_getElem (by omega)]
      rfl
    · rw [Nat.zero_add]
      simp only [World.frozen?, hnew, hsz]
      simp
      omega
  · have := conv_bytes s w
    obtain ⟨w', c, h1, _, h3⟩ := this
    rw [Lib.run_convert_string_bytes (P := Tryd.prog) w 9 24 5 s Tryd.underlying9 Tryd.underlying24 Tryd.underlying5] at h1
    injection h1 with _ h1
    rw [h1]
    exact h3
theorem Gro.bt {w : World} {A : Option Addr} {n c : Nat} {l : List UInt8} (h : Gro w A n c (bvs l)) : Bt w A n c l :=
  ⟨h.sl, h.cap, by have := h.max; unfold maxLen at this; omega, fun e => by
    rcases Nat.eq_zero_or_pos c with h0 | h0
    · exact h0
    · obtain ⟨g, o, e2, _⟩ := h.at_ h0
      rw [e] at e2
      cases e2⟩
/-- A sum of two texts, as an equation for every world. -/
theorem add_eq (a b : ByteArray) (h : a.size + b.size ≤ 1048576) : ∃ c : ByteArray, c.data.toList = a.data.toList ++ b.data.toList ∧ c.size = a.size + b.size ∧ ∀ W, (Op.stringOp .add a b).run Tryd.prog W = .ok (.string c) W :=
  ⟨a ++ b, by rw [ByteArray.data_append, Array.toList_append], by simp [ByteArray.size_append], fun W => run_string_add_sum (P := Tryd.prog) (w := W) a b (by omega)⟩
/-- '[]byte("..")' of a constant text: it may be appended to. -/
theorem gro_const (w : World) (C : Array Value) (l : List UInt8) (n : Nat) (fr : Nat × Nat) (hC : C.toList = bvs l) (hn : C.size = n) (hfr : n ≤ fr.1) (hm : n ≤ maxLen) : Gro (w.alloc (.cells C 5 fr)) (some ⟨w.heap.size, 0, none⟩) n n (bvs l) := by
  have hl : (bvs l).length = n := by rw [← hC, ← hn]; simp
  refine ⟨hl, Nat.le_refl _, hm, fun k hk => by simp at hk; subst hk; simp, fun _ => ⟨w.heap.size, 0, rfl, fun j u hu => ?_, fun j hj => ⟨?_, ?_⟩⟩⟩
  · rw [Nat.zero_add, World.cell?_alloc_mark]
    rw [← hC] at hu
    simpa using hu
  · rw [Nat.zero_add, World.cell?_alloc_mark, Array.getElem?_eq_getElem (by omega)]
    rfl
  · rw [Nat.zero_add]
    have h0 := heap_alloc_new w (.cells C 5 fr)
    unfold World.frozen?
    rw [h0]
    simp
    omega

/-- Letters and digits, at least one, thirty at most. -/
def Cl (s : ByteArray) : Prop := (∀ x ∈ s.data.toList, isC x) ∧ 1 ≤ s.size ∧ s.size ≤ 30
set_option maxRecDepth 100000 in
set_option maxHeartbeats 2000000 in
theorem clean_is (s : ByteArray) (hs : s.size ≤ 140737488351232) (b : Bool) (hb : b = true ↔ Cl s) (w : World) : Calls Tryd.prog 8 #[.string s] w fun e w' => e = .returned (.bool b) ∧ w = w' := by
  have hsl : s.data.toList.length = s.size := by simp
  have HB := Lib.hid hb
  have HL := Lib.hid hsl
  clear hb hsl
  go_enter Tryd.func8, Tryd.ntmps8
  go_wp2_with fail
  go_loopw [3] (fun i wr => ∃ k : Nat, k ≤ s.size ∧ i = .int .i64 (k : Int) ∧ Hid (∀ x ∈ s.data.toList.take k, isC x) ∧ w = wr) (fun i _ => s.size - (intOf i).toNat)
  case atStart => exact ⟨0, Nat.zero_le _, rfl, (fun x hx => by simp at hx), rfl⟩
  case round =>
    obtain ⟨k, hk, rfl, HT, rfl⟩ := hrel
    by_cases hlt : k < s.size
    · have hlt' : (k : Int) < (s.size : Int) := by omega
      have hkl : k < s.data.toList.length := by rw [HL.out]; exact hlt
      have hx : s[k] = s.data.toList[k] := rfl
      have hC : isC s.data.toList[k] ↔ (97 ≤ s[k].toNat ∧ s[k].toNat ≤ 122) ∨ (48 ≤ s[k].toNat ∧ s[k].toNat ≤ 57) := by rw [hx]; exact Iff.rfl
      have htk : isC s.data.toList[k] → ∀ x ∈ s.data.toList.take (k + 1), isC x := fun h x hx => by
        rw [List.take_succ_eq_append_getElem hkl] at hx
        rcases List.mem_append.1 hx with hx | hx
        · exact HT.out x hx
        · rw [List.mem_singleton.1 hx]; exact h
      have hno : ¬ isC s.data.toList[k] → b = false := fun h => by
        cases hbb : b with
        | false => rfl
        | true => exact absurd ((HB.out.1 hbb).1 _ (List.getElem_mem hkl)) h
      have HTK := Lib.hid htk
      have HNO := Lib.hid hno
      obtain ⟨y, hy⟩ : ∃ y : Nat, s[k].toNat = y := ⟨_, rfl⟩
      have HY := Lib.hid hy
      rw [hy] at hC
      have HC := Lib.hid hC
      clear htk hno hC hx
      have hyc : y < 48 ∨ (48 ≤ y ∧ y ≤ 57) ∨ (57 < y ∧ y < 97) ∨ (97 ≤ y ∧ y ≤ 122) ∨ 122 < y := by omega
      rcases hyc with h | h | h | h | h
      · have h1 : (y : Int) < 97 := by omega
        have h2 : (y : Int) < 48 := by omega
        have hbf := HNO.out (fun h3 => by have := HC.out.1 h3; omega)
        subst hbf
        go_wp2_with fail
        go_ret
        exact ⟨rfl, rfl⟩
      · have h1 : (y : Int) < 97 := by omega
        have h2 : ¬ (y : Int) < 48 := by omega
        have h3 : ¬ (57 : Int) < (y : Int) := by omega
        have HT2 := Lib.hid (HTK.out (HC.out.2 (.inr h)))
        go_wp2_with fail
        go_roundw
        case rel => exact ⟨k + 1, by omega, by go_num, HT2.out, trivial⟩
        case measure => simp [intOf]; omega
      · have h1 : (y : Int) < 97 := by omega
        have h2 : ¬ (y : Int) < 48 := by omega
        have h3 : (57 : Int) < (y : Int) := by omega
        have hbf := HNO.out (fun h3 => by have := HC.out.1 h3; omega)
        subst hbf
        go_wp2_with fail
        go_ret
        exact ⟨rfl, rfl⟩
      · have h1 : ¬ (y : Int) < 97 := by omega
        have h2 : ¬ (122 : Int) < (y : Int) := by omega
        have HT2 := Lib.hid (HTK.out (HC.out.2 (.inl h)))
        go_wp2_with fail
        go_roundw
        case rel => exact ⟨k + 1, by omega, by go_num, HT2.out, trivial⟩
        case measure => simp [intOf]; omega
      · have h1 : ¬ (y : Int) < 97 := by omega
        have h2 : (122 : Int) < (y : Int) := by omega
        have h3 : ¬ (y : Int) < 48 := by omega
        have h4 : (57 : Int) < (y : Int) := by omega
        have hbf := HNO.out (fun h3 => by have := HC.out.1 h3; omega)
        subst hbf
        go_wp2_with fail
        go_ret
        exact ⟨rfl, rfl⟩
    · obtain rfl : k = s.size := by omega
      rw [List.take_of_length_le (by rw [HL.out]; exact Nat.le_refl _)] at HT
      by_cases h1 : 1 ≤ s.size
      · have h1' : (1 : Int) ≤ (s.size : Int) := by omega
        by_cases h2 : s.size ≤ 30
        · have h2' : (s.size : Int) ≤ 30 := by omega
          have hbt : b = true := HB.out.2 ⟨HT.out, h1, h2⟩
          subst hbt
          go_wp2_with fail
          go_ret
          exact ⟨rfl, rfl⟩
        · have h2' : ¬ (s.size : Int) ≤ 30 := by omega
          have hbf : b = false := by
            cases hbb : b with
            | false => rfl
            | true => exact absurd (HB.out.1 hbb).2.2 h2
          subst hbf
          go_wp2_with fail
          go_ret
          exact ⟨rfl, rfl⟩
      · have h1' : ¬ (1 : Int) ≤ (s.size : Int) := by omega
        have hbf : b = false := by
          cases hbb : b with
          | false => rfl
          | true => exact absurd (HB.out.1 hbb).2.1 h1
        subst hbf
        go_wp2_with fail
        go_ret
        exact ⟨rfl, rfl⟩
end Go.Proofs.YtakehogenioobaaDoor
