/-
  The document's Low and Same.
-/
import Derived.Test.YtamekbpmbmggoaaDoorASimp
import Derived.Lib.ConvBytes
namespace Go.Proofs.YtamekbpmbmggoaaDoor
open Go.RowKit Go.Instr

/-- Cells that read as bytes, and may be written. -/
def Cg (w : World) (g : Nat) (l : List UInt8) : Prop := ∀ j (h : j < l.length), w.cell? ⟨g, j, none⟩ = some (bv l[j]) ∧ w.frozen? ⟨g, j, none⟩ = false
theorem Cg.set {w : World} {g : Nat} {l : List UInt8} (h : Cg w g l) {k : Nat} (hk : k < l.length) (y : UInt8) : Cg (w.setCell ⟨g, k, none⟩ (bv y)) g (l.set k y) := by
  intro j hj
  rw [List.length_set] at hj
  refine ⟨?_, by rw [World.frozen?_setCell]; exact (h j hj).2⟩
  by_cases e : k = j
  · subst e
    rw [List.getElem_set_self]
    exact World.cell?_setCell_same' _ _ _ (by rw [(h k hk).1]; rfl)
  · rw [List.getElem_set_ne e]
    rw [World.cell?_setCell_other _ _ _ _ (by intro h2; cases h2; exact e rfl)]
    exact (h j hj).1
theorem Cg.sl {w : World} {g : Nat} {l : List UInt8} (h : Cg w g l) : Sl w (some ⟨g, 0, none⟩) l.length (bvs l) :=
  ⟨by simp, fun _ => ⟨_, rfl, fun j u hu => by
    have hj : j < l.length := by have := (List.getElem?_eq_some_iff.1 hu).1; simpa using this
    rw [bvs_get l j hj] at hu
    rw [add_none, Nat.zero_add, (h j hj).1, hu]⟩⟩
/-- '[]byte(s)' of a text. -/
theorem conv_bytes (s : ByteArray) (w : World) : ∃ w' c, (convert 9 43 (.string s)).run Tryd.prog w = .ok (.slice (some ⟨w.heap.size, 0, none⟩) s.size c) w' ∧ Cg w' w.heap.size s.data.toList ∧ Only [] w w' := by
  refine ⟨_, _, Lib.run_convert_string_bytes (P := Tryd.prog) w 9 43 5 s Tryd.underlying9 Tryd.underlying43 Tryd.underlying5, ?_, ?_⟩
  · intro j hj
    have hj' : j < s.size := by simpa using hj
    refine ⟨?_, ?_⟩
    · rw [Lib.bytesWorld_cell w 5 s j hj', List.getD_eq_getElem?_getD, List.getElem?_eq_getElem hj]
      rfl
    · have hn := Lib.bytesWorld_at_new w 5 s
      have hsz : s.size ≤ (Lib.bytesCells w 5 s).size := by simp [Lib.bytesCells]
      unfold World.frozen?
      rw [hn]
      simp
      omega
  · exact ⟨rfl, rfl, rfl, by rw [Lib.bytesWorld_size]; omega, fun k hk _ => Lib.bytesWorld_at_old w _ s k hk⟩

def lowK (l : List UInt8) (k : Nat) : List UInt8 := (l.take k).map low ++ l.drop k
theorem lowK_len (l : List UInt8) (k : Nat) : (lowK l k).length = l.length := by unfold lowK; simp; omega
theorem lowK_at {l : List UInt8} {k : Nat} (h : k < l.length) (h' : k < (lowK l k).length) : (lowK l k)[k] = l[k] := by
  have e : (lowK l k)[k]? = l[k]? := by
    unfold lowK
    rw [List.getElem?_append_right (by simp; omega), show k - ((l.take k).map low).length = 0 by simp; omega, List.getElem?_drop]
    simp
  rw [List.getElem?_eq_getElem h', List.getElem?_eq_getElem h] at e
  exact Option.some.inj e
theorem lowK_set {l : List UInt8} {k : Nat} (h : k < l.length) : (lowK l k).set k (low l[k]) = lowK l (k + 1) := by
  unfold lowK
  rw [List.set_append_right _ _ (by simp; omega), List.take_succ_eq_append_getElem h, List.map_append, List.append_assoc]
  congr 1
  rw [List.drop_eq_getElem_cons h, show k - ((l.take k).map low).length = 0 by simp; omega]
  rfl
theorem lowK_same {l : List UInt8} {k : Nat} (h : k < l.length) (hx : low l[k] = l[k]) : lowK l (k + 1) = lowK l k := by
  rw [← lowK_set h, hx]
  have h' : k < (lowK l k).length := by rw [lowK_len]; exact h
  conv => lhs; rw [← lowK_at h h']
  exact List.set_getElem_self h'
theorem lowK_all (l : List UInt8) {k : Nat} (h : l.length ≤ k) : lowK l k = lows l := by
  unfold lowK
  rw [List.take_of_length_le h, List.drop_of_length_le h]
  simp [lows]

set_option maxHeartbeats 1000000 in
theorem refLow_any (s : ByteArray) (hbig : s.size ≤ 140737488355328) (w : World) : Calls Tryd.prog 19 #[.string s] w fun e w' => ∃ t : ByteArray, e = .returned (.string t) ∧ Hid (t = St (lows s.data.toList)) ∧ Only [] w w' := by
  obtain ⟨w1, c, hcv, hC1, hO1⟩ := conv_bytes s w
  obtain ⟨l, hl⟩ : ∃ l, s.data.toList = l := ⟨_, rfl⟩
  have hsl : l.length = s.size := by rw [← hl]; simp
  rw [hl] at hC1 ⊢
  obtain ⟨n, hn⟩ : ∃ n, s.size = n := ⟨_, rfl⟩
  rw [hn] at hcv hsl hbig
  have HL := Lib.hid hsl
  clear hn hl hsl
  go_enter Tryd.func19, Tryd.ntmps19
  go_wp2
  go_loopw [4] (fun i wr => ∃ k : Nat, k ≤ n ∧ i = .int .i64 (k : Int) ∧ Cg wr w.heap.size (lowK l k) ∧ Only [] w wr) (fun i _ => n - (intOf i).toNat)
  case atStart => exact ⟨0, Nat.zero_le _, rfl, by simpa [lowK] using hC1, hO1⟩
  case round =>
    obtain ⟨k, hk, rfl, hC, hO⟩ := hrel
    by_cases hlt : k < n
    · have hkl : k < l.length := by rw [HL.out]; exact hlt
      have hkK : k < (lowK l k).length := by rw [lowK_len]; exact hkl
      obtain ⟨hc, hf⟩ := hC k hkK
      rw [lowK_at hkl hkK] at hc
      have hlt' : (k : Int) < (n : Int) := by omega
      obtain ⟨x, hx⟩ : ∃ x, l[k] = x := ⟨_, rfl⟩
      have hset := lowK_set hkl
      have hsame := lowK_same hkl
      rw [hx] at hc hset hsame
      have hb := byte_lt x
      obtain ⟨y, hy⟩ : ∃ y : Nat, x.toNat = y := ⟨_, rfl⟩
      have hc' : wr.cell? ⟨w.heap.size, k, none⟩ = some (.int .u8 (y : Int)) := by rw [hc, ← hy]; rfl
      have hlow : (low x).toNat = if 65 ≤ y ∧ y ≤ 90 then y + 32 else y := by
        unfold low
        rw [← hy]
        by_cases h : 65 ≤ x.toNat ∧ x.toNat ≤ 90
        · rw [if_pos h, if_pos ⟨UInt8.le_iff_toNat_le.2 h.1, UInt8.le_iff_toNat_le.2 h.2⟩, UInt8.toNat_add]
          show (x.toNat + 32) % 256 = _
          omega
        · rw [if_neg h, if_neg (fun h2 : 65 ≤ x ∧ x ≤ 90 => h ⟨by have := UInt8.le_iff_toNat_le.1 h2.1; exact this, by have := UInt8.le_iff_toNat_le.1 h2.2; exact this⟩)]
      rw [hy] at hb
      have hr : y < 65 ∨ 90 < y ∨ (65 ≤ y ∧ y ≤ 90) := by omega
      rcases hr with h | h | ⟨h1, h2⟩
      · have h' : (y : Int) < 65 := by omega
        have HS : Hid (lowK l (k + 1) = lowK l k) := hsame (UInt8.toNat_inj.1 (by rw [hlow, if_neg (by omega), hy]))
        clear hlow hsame hset hx hy hc
        go_wp2
        go_roundw
        case rel => exact ⟨k + 1, by omega, by go_num, by rw [HS.out]; exact hC, hO⟩
        case measure => simp [intOf]; omega
      · have h' : (90 : Int) < (y : Int) := by omega
        have h'' : (65 : Int) ≤ (y : Int) := by omega
        have HS : Hid (lowK l (k + 1) = lowK l k) := hsame (UInt8.toNat_inj.1 (by rw [hlow, if_neg (by omega), hy]))
        clear hlow hsame hset hx hy hc
        go_wp2
        go_roundw
        case rel => exact ⟨k + 1, by omega, by go_num, by rw [HS.out]; exact hC, hO⟩
        case measure => simp [intOf]; omega
      · have h1' : (65 : Int) ≤ (y : Int) := by omega
        have h2' : (y : Int) ≤ 90 := by omega
        have HC : Hid (Cg (wr.setCell ⟨w.heap.size, k, none⟩ (.int .u8 ((y : Int) + 32))) w.heap.size (lowK l (k + 1))) := by
          show Cg _ _ _
          have := hC.set hkK (low x)
          rw [hset] at this
          unfold bv at this
          rw [hlow, if_pos ⟨h1, h2⟩] at this
          simpa using this
        clear hlow hsame hset hx hy hc
        go_wp2
        go_roundw
        case rel => exact ⟨k + 1, by omega, by go_num, HC.out, hO.setCell (.inr (Nat.le_refl _)) _⟩
        case measure => simp [intOf]; omega
    · obtain rfl : k = n := by omega
      rw [lowK_all l (by rw [HL.out]; exact Nat.le_refl _)] at hC
      have hS := hC.sl
      have hll : (lows l).length = k := by simp [lows, HL.out]
      rw [hll] at hS
      have hcv2 := run_str_sl (P := Tryd.prog) 43 9 5 _ k c (lows l) Tryd.underlying43 Tryd.underlying5 Tryd.underlying9 hS
      obtain ⟨t, ht⟩ : ∃ t, St (lows l) = t := ⟨_, rfl⟩
      rw [ht] at hcv2
      have HT := Lib.hid ht
      clear ht hll
      go_wp2
      go_ret
      exact ⟨t, rfl, HT.out.symm, hO⟩

theorem refSame_any (a b : ByteArray) (ha : a.size ≤ 140737488355328) (hb : b.size ≤ 140737488355328) (w : World) : Calls Tryd.prog 15 #[.string a, .string b] w fun e w' => e = .returned (.bool (sameT a.data.toList b.data.toList)) ∧ Only [] w w' := by
  obtain ⟨r, hr⟩ : ∃ r, sameT a.data.toList b.data.toList = r := ⟨_, rfl⟩
  rw [hr]
  have HR := Lib.hid hr
  clear hr
  go_enter Tryd.func15, Tryd.ntmps15
  go_wp2_with first
    | (go_at_call 19; with_reducible refine (refLow_any b hb w1).mono ?_; rintro e w2 ⟨t2, rfl, HT2, hO2⟩)
    | (go_at_call 19; with_reducible refine (refLow_any a ha w).mono ?_; rintro e w1 ⟨t1, rfl, HT1, hO1⟩)
  go_ret
  refine ⟨?_, hO1.then hO2⟩
  rw [← HR.out]
  show Ending.returned (.bool (t1.toList == t2.toList)) = _
  rw [HT1.out, HT2.out, St_eq]
  rfl
end Go.Proofs.YtamekbpmbmggoaaDoor
