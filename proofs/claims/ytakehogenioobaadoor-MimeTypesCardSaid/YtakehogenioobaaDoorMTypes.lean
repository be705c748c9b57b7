/-
  The law MimeTypes.
-/
import Derived.Test.YtakehogenioobaaDoorMCount
import Derived.Test.YtakehogenioobaaDoorMConv
namespace Go.Proofs.YtakehogenioobaaDoor
open Go.RowKit Go.Instr

theorem isL_C {x : UInt8} (h : 97 ≤ x.toNat ∧ x.toNat ≤ 122) : isC x := .inl h
theorem ne_of_len {s : ByteArray} (h : 1 ≤ s.size) : s.data.toList ≠ [] := fun e => by
  have h1 : s.data.toList.length = s.size := by simp
  rw [e] at h1
  simp at h1
  omega
/-- What the law's two messages mean. -/
theorem types_of {a s m : ByteArray} (ha : Cl a) (hs : Cl s) (hm : ∀ x ∈ m.data.toList, 97 ≤ x.toNat ∧ x.toNat ≤ 122) {b1 b2 : List UInt8}
    (h1 : b1 = tyA a.data.toList s.data.toList m.data.toList) (h2 : b2 = oneH (hdO a.data.toList) []) :
    St (tyM b1) = a ∧ St (tyS b1) = s ∧ St (tyB b1) = ⟨#[]⟩ ∧ St (tyM b2) = ⟨#[116, 101, 120, 116]⟩ ∧ St (tyS b2) = ⟨#[112, 108, 97, 105, 110]⟩ ∧ St (tyB b2) = ⟨#[]⟩ := by
  obtain ⟨e1, e2, e3⟩ := types_one ha.1 hs.1 (fun x hx => isL_C (hm x hx)) (ne_of_len ha.2.1) (ne_of_len hs.2.1)
  obtain ⟨e4, e5, e6⟩ := types_two ha.1
  subst h1 h2
  rw [e1, e2, e3, e4, e5, e6, St_data, St_data]
  exact ⟨rfl, rfl, rfl, rfl, rfl, rfl⟩
/-- The two messages' texts, as sums. -/
theorem types_sum (a s m : ByteArray) (ha : a.size ≤ 30) (hs : s.size ≤ 30) (hm : m.size ≤ 100) : ∃ s1 s2 s3 s4 s5 s6 r1 r2 : ByteArray,
    (∀ W, (Op.stringOp .add ⟨#[67, 79, 78, 84, 69, 78, 84, 45, 84, 89, 80, 69, 58, 32, 32]⟩ a).run Tryd.prog W = .ok (.string s1) W) ∧ (∀ W, (Op.stringOp .add s1 ⟨#[47]⟩).run Tryd.prog W = .ok (.string s2) W) ∧ (∀ W, (Op.stringOp .add s2 s).run Tryd.prog W = .ok (.string s3) W) ∧
    (∀ W, (Op.stringOp .add s3 ⟨#[32, 59, 32]⟩).run Tryd.prog W = .ok (.string s4) W) ∧ (∀ W, (Op.stringOp .add s4 m).run Tryd.prog W = .ok (.string s5) W) ∧ (∀ W, (Op.stringOp .add s5 ⟨#[13, 10, 13, 10]⟩).run Tryd.prog W = .ok (.string s6) W) ∧
    (∀ W, (Op.stringOp .add ⟨#[67, 111, 110, 116, 101, 110, 116, 45, 84, 121, 112, 101, 58, 32]⟩ a).run Tryd.prog W = .ok (.string r1) W) ∧ (∀ W, (Op.stringOp .add r1 ⟨#[13, 10, 13, 10]⟩).run Tryd.prog W = .ok (.string r2) W) ∧
    s6.data.toList = tyA a.data.toList s.data.toList m.data.toList ∧ r2.data.toList = oneH (hdO a.data.toList) [] ∧ s6.size ≤ 400 ∧ r2.size ≤ 400 := by
  have z1 : (ByteArray.mk #[67, 79, 78, 84, 69, 78, 84, 45, 84, 89, 80, 69, 58, 32, 32]).size = 15 := rfl
  have z2 : (ByteArray.mk #[47]).size = 1 := rfl
  have z3 : (ByteArray.mk #[32, 59, 32]).size = 3 := rfl
  have z4 : (ByteArray.mk #[13, 10, 13, 10]).size = 4 := rfl
  have z5 : (ByteArray.mk #[67, 111, 110, 116, 101, 110, 116, 45, 84, 121, 112, 101, 58, 32]).size = 14 := rfl
  obtain ⟨s1, l1, n1, e1⟩ := add_eq ⟨#[67, 79, 78, 84, 69, 78, 84, 45, 84, 89, 80, 69, 58, 32, 32]⟩ a (by omega)
  obtain ⟨s2, l2, n2, e2⟩ := add_eq s1 ⟨#[47]⟩ (by omega)
  obtain ⟨s3, l3, n3, e3⟩ := add_eq s2 s (by omega)
  obtain ⟨s4, l4, n4, e4⟩ := add_eq s3 ⟨#[32, 59, 32]⟩ (by omega)
  obtain ⟨s5, l5, n5, e5⟩ := add_eq s4 m (by omega)
  obtain ⟨s6, l6, n6, e6⟩ := add_eq s5 ⟨#[13, 10, 13, 10]⟩ (by omega)
  obtain ⟨r1, k1, m1, f1⟩ := add_eq ⟨#[67, 111, 110, 116, 101, 110, 116, 45, 84, 121, 112, 101, 58, 32]⟩ a (by omega)
  obtain ⟨r2, k2, m2, f2⟩ := add_eq r1 ⟨#[13, 10, 13, 10]⟩ (by omega)
  refine ⟨s1, s2, s3, s4, s5, s6, r1, r2, e1, e2, e3, e4, e5, e6, f1, f2, ?_, ?_, by omega, by omega⟩
  · rw [l6, l5, l4, l3, l2, l1]
    simp [tyA, oneH, uctN]
  · rw [k2, k1]
    simp [oneH, hdO, ctN]
set_option maxRecDepth 100000 in
set_option maxHeartbeats 4000000 in
theorem types_any (a s m : ByteArray) (w : World) (ha : a.size ≤ 140737488351232) (hs : s.size ≤ 140737488351232) (hm : m.size ≤ 140737488351232) :
    Calls Tryd.prog 6 #[.string a, .string s, .string m] w fun e w' => e = .returned (.bool true) ∧ Only [] w w' := by
  by_cases hca : Cl a
  case neg =>
    have c1 := clean_is a ha false ⟨fun h => absurd h (by decide), fun h => absurd h hca⟩ w
    go_enter Tryd.func6, Tryd.ntmps6
    go_wp2_with (go_at_call 8; (with_reducible refine c1.mono ?_); rintro e w1 ⟨rfl, rfl⟩)
    go_ret
    exact ⟨rfl, Only.refl _ _⟩
  have c1 := clean_is a ha true ⟨fun _ => hca, fun _ => rfl⟩ w
  by_cases hcs : Cl s
  case neg =>
    have c2 := clean_is s hs false ⟨fun h => absurd h (by decide), fun h => absurd h hcs⟩ w
    go_enter Tryd.func6, Tryd.ntmps6
    go_wp2_with first
      | (go_at_call 8; (with_reducible refine c1.mono ?_); clear c1; rintro e w1 ⟨rfl, rfl⟩)
      | (go_at_call 8; (with_reducible refine c2.mono ?_); rintro e w1 ⟨rfl, rfl⟩)
    go_ret
    exact ⟨rfl, Only.refl _ _⟩
  have c2 := clean_is s hs true ⟨fun _ => hcs, fun _ => rfl⟩ w
  by_cases hm1 : m.size ≤ 100
  case neg =>
    have hm2 : (100 : Int) < (m.size : Int) := by omega
    go_enter Tryd.func6, Tryd.ntmps6
    go_wp2_with first
      | (go_at_call 8; (with_reducible refine c1.mono ?_); clear c1; rintro e w1 ⟨rfl, rfl⟩)
      | (go_at_call 8; (with_reducible refine c2.mono ?_); rintro e w1 ⟨rfl, rfl⟩)
    go_ret
    exact ⟨rfl, Only.refl _ _⟩
  have hm2 : ¬ (100 : Int) < (m.size : Int) := by omega
  have hml : m.data.toList.length = m.size := by simp
  obtain ⟨s1, s2, s3, s4, s5, s6, r1, r2, E1, E2, E3, E4, E5, E6, F1, F2, L1, L2, Z1, Z2⟩ := types_sum a s m hca.2.2 hcs.2.2 hm1
  have HML := Lib.hid hml
  have HCA := Lib.hid hca
  have HCS := Lib.hid hcs
  have HL1 := Lib.hid L1
  have HL2 := Lib.hid L2
  clear hml hca hcs L1 L2 ha hs
  go_enter Tryd.func6, Tryd.ntmps6
  go_wp2_with first
    | (go_at_call 8; (with_reducible refine c1.mono ?_); clear c1; rintro e w1 ⟨rfl, rfl⟩)
    | (go_at_call 8; (with_reducible refine c2.mono ?_); rintro e w1 ⟨rfl, rfl⟩)
  go_loopw [7] (fun i wr => ∃ k : Nat, k ≤ m.size ∧ i = .int .i64 (k : Int) ∧ Hid (∀ x ∈ m.data.toList.take k, 97 ≤ x.toNat ∧ x.toNat ≤ 122) ∧ w = wr) (fun i _ => m.size - (intOf i).toNat)
  case atStart => exact ⟨0, Nat.zero_le _, rfl, (fun x hx => by simp at hx), rfl⟩
  case round =>
    obtain ⟨k, hk, rfl, HT, rfl⟩ := hrel
    by_cases hlt : k < m.size
    · have hlt' : (k : Int) < (m.size : Int) := by omega
      have hkl : k < m.data.toList.length := by rw [HML.out]; exact hlt
      have htk : (97 ≤ m[k].toNat ∧ m[k].toNat ≤ 122) → ∀ x ∈ m.data.toList.take (k + 1), 97 ≤ x.toNat ∧ x.toNat ≤ 122 := fun h x hx => by
        rw [List.take_succ_eq_append_getElem hkl] at hx
        rcases List.mem_append.1 hx with hx | hx
        · exact HT.out x hx
        · rw [List.mem_singleton.1 hx]; exact h
      obtain ⟨y, hy⟩ : ∃ y : Nat, m[k].toNat = y := ⟨_, rfl⟩
      rw [hy] at htk
      have HTK := Lib.hid htk
      clear htk
      by_cases h1 : y < 97
      · have h1' : (y : Int) < 97 := by omega
        go_wp2_with fail
        go_ret
        exact ⟨rfl, Only.refl _ _⟩
      · by_cases h2 : 122 < y
        · have h1' : ¬ (y : Int) < 97 := by omega
          have h2' : (122 : Int) < (y : Int) := by omega
          go_wp2_with fail
          go_ret
          exact ⟨rfl, Only.refl _ _⟩
        · have h1' : ¬ (y : Int) < 97 := by omega
          have h2' : ¬ (122 : Int) < (y : Int) := by omega
          have HT2 := Lib.hid (HTK.out ⟨by omega, by omega⟩)
          go_wp2_with fail
          go_roundw
          case rel => exact ⟨k + 1, by omega, by go_num, HT2.out, trivial⟩
          case measure => simp [intOf]; omega
    · obtain rfl : k = m.size := by omega
      rw [List.take_of_length_le (by rw [HML.out]; exact Nat.le_refl _)] at HT
      obtain ⟨y1, y2, y3, y4, y5, y6⟩ := types_of HCA.out HCS.out HT.out HL1.out HL2.out
      obtain ⟨w1, g1, hcv1, hG1, hO1⟩ := conv_gro s6 (by omega) w
      have cT1 := Type_any hG1.bt (by omega) hG1.lt
      rw [y1, y2, y3] at cT1
      have q1 : (a.toList == a.toList) = true := by simp
      have q2 : (s.toList == s.toList) = true := by simp
      have cT2 : ∀ w2, ∃ w3 g3, (convert 9 24 (.string r2)).run Tryd.prog w2 = .ok (.slice (some ⟨w2.heap.size, 0, none⟩) r2.size g3) w3 ∧ Only [] w2 w3 ∧ Calls Tryd.prog 14 #[.slice (some ⟨w2.heap.size, 0, none⟩) r2.size g3] w3 fun e w' => e = .returned (.tuple #[.string ⟨#[116, 101, 120, 116]⟩, .string ⟨#[112, 108, 97, 105, 110]⟩, .string ⟨#[]⟩]) ∧ Only [] w3 w' := fun w2 => by
        obtain ⟨w3, g3, h1, h2, h3⟩ := conv_gro r2 (by omega) w2
        have := Type_any h2.bt (by omega) h2.lt
        rw [y4, y5, y6] at this
        exact ⟨w3, g3, h1, h3, this⟩
      clear y1 y2 y3 y4 y5 y6 hG1 HT HL1 HL2
      go_wp2_with first
        | (go_at_call 14; (with_reducible refine cT1.mono ?_); clear cT1; rintro e w2 ⟨rfl, hO2⟩; obtain ⟨w3, g3, hcv3, hO3, cT3⟩ := cT2 w2)
        | (go_at_call 14; (with_reducible refine cT3.mono ?_); rintro e w4 ⟨rfl, hO4⟩)
        | (go_at_call 12; (with_reducible refine (known_any _).mono ?_); rintro e w5 ⟨rfl, hO5⟩)
      go_ret
      exact ⟨rfl, (((hO1.then hO2).then hO3).then hO4).then hO5⟩
end Go.Proofs.YtakehogenioobaaDoor
