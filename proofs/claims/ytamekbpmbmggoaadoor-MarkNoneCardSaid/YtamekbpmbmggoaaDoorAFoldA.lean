/-
  strings.EqualFold of any text against a word of plain letters that is as long.
-/
import Derived.Test.YtamekbpmbmggoaaDoorASimp
import Derived.Test.YtamekbpmbmggoaaDoorGoto
import Derived.Laws.RangeAny
import Derived.Laws.Strings3
import Derived.Deep.LoopGhost
namespace Go.Proofs.YtamekbpmbmggoaaDoor
open Go.RowKit Go.Instr

/-! ### decoding -/
theorem decode_fits (s : ByteArray) (pos : Nat) (h : pos < s.size) : pos + (Utf8.decode s pos).2 ≤ s.size := by
  simp only [Utf8.decode]
  repeat' split
  all_goals simp_all
  all_goals omega
theorem decode_pos (s : ByteArray) (pos : Nat) (h : pos < s.size) : 1 ≤ (Utf8.decode s pos).2 := by
  by_cases ha : (s[pos]'h).toNat < 128
  · rw [decode_ascii s pos h ha]; exact Nat.le_refl _
  · exact (decode_high s pos h (by omega)).2
theorem decode_383 (s : ByteArray) (pos : Nat) (h : (Utf8.decode s pos).1 = 383) : (Utf8.decode s pos).2 = 2 := by
  simp only [Utf8.decode] at h ⊢
  revert h
  repeat' split
  all_goals simp_all [Utf8.runeError]
  all_goals omega

/-! ### the next letter that folds to this one -/
def nxt (r : Nat) : Nat := if r < 128 then ascF r else 83
def Fd (r : Nat) : Prop := (r < 128 ∨ r = 383) ∧ r ≠ 75 ∧ r ≠ 107
theorem nxt_fd {r : Nat} (h : Fd r) : Fd (nxt r) := by
  obtain ⟨h1, h2, h3⟩ := h
  unfold Fd nxt ascF
  repeat' split
  all_goals omega
/-- How far it is to c. -/
def far (c x : Nat) : Nat := if x = c then 0 else if nxt x = c then 1 else if nxt (nxt x) = c then 2 else 3
theorem far_first : ∀ c < 128, c ≠ 75 → c ≠ 107 → far c (nxt c) ≤ 2 := by decide
theorem far_next {c x : Nat} (h : far c x ≤ 2) (hx : x ≠ c) : far c (nxt x) < far c x := by
  unfold far at h ⊢
  rw [if_neg hx] at h ⊢
  by_cases h1 : nxt x = c
  · simp [h1]
  · rw [if_neg h1] at h ⊢
    by_cases h2 : nxt (nxt x) = c
    · simp [h1, h2]
    · rw [if_neg h2] at h
      omega
theorem simple_any {w : World} (hL : Laid w) (r : Nat) (hr : Fd r) : Calls Tryd.prog 24 #[.int .i32 (r : Int)] w fun e w' => e = .returned (.int .i32 ((nxt r : Nat) : Int)) ∧ w = w' := by
  rcases hr.1 with h | rfl
  · have := fold_asc hL r h
    unfold nxt
    rwa [if_pos h]
  · exact fold_383 hL

/-! ### texts -/
theorem ext_size (s : ByteArray) (i : Nat) : (s.extract i s.size).size = s.size - i := by
  rw [ByteArray.size_extract, Nat.min_self]
theorem ext_list (s : ByteArray) (i : Nat) : (s.extract i s.size).data.toList = s.data.toList.drop i := by
  have : (s.extract i s.size).data = s.data.extract i s.size := by simp
  rw [this, Array.toList_extract, List.extract_eq_take_drop, List.take_of_length_le]
  simp
theorem run_cut_end {P : Program} (t : TypeId) (hu : P.underlying t = some .string) (s : ByteArray) (i : Nat) (I : Int) (hI : I = (i : Int)) (h : i ≤ s.size) (W : World) :
    (Instr.slice t (.string s) (some (.int .i64 I)) none none).run P W = .ok (.string (s.extract i s.size)) W := by
  subst hI
  rw [run_slice_string_from_if W t s .i64 (i : Int) hu, if_pos ⟨by omega, by omega⟩]
  simp

def foldJ (s t : ByteArray) (w : World) (a' : Act) (w' : World) : Prop :=
  ∃ (i : Nat) (f : Nat → Value), a' = { tmps := #[.string s, .string t, f 2, f 3, f 4, .int .i64 (i : Int), f 6, f 7, f 8, f 9, f 10, f 11, f 12, f 13, f 14, f 15, f 16, f 17, f 18, f 19, f 20, f 21, f 22, f 23, f 24, f 25, f 26, f 27, f 28, f 29, f 30, f 31, f 32, f 33, f 34, f 35, f 36, f 37, f 38, f 39, f 40, f 41, f 42, f 43, f 44, f 45, f 46, f 47, f 48, f 49, f 50, f 51, f 52, f 53, f 54, f 55, f 56, f 57, f 58, f 59, f 60, f 61, f 62, f 63, f 64, f 65, f 66, f 67, f 68, f 69, f 70, f 71, f 72, f 73, f 74, f 75, f 76, f 77, f 78, f 79, f 80, f 81, f 82, f 83, f 84, f 85, f 86, f 87, f 88, f 89, f 90, f 91, f 92, f 93, f 94, f 95, f 96, f 97, f 98, f 99, f 100, f 101, f 102, f 103, f 104, f 105, f 106, f 107, f 108, f 109, f 110, f 111, f 112, f 113, f 114, f 115, f 116, f 117, f 118, f 119, f 120, f 121, f 122], defers := [] } ∧ w = w' ∧ ∃ h : i < s.size, 128 ≤ (s[i]'h).toNat
theorem foldJ_mk {s t : ByteArray} {w : World} {a : Act} (i : Nat) (ha : a = { tmps := #[.string s, .string t, a.tmps.getD 2 undef, a.tmps.getD 3 undef, a.tmps.getD 4 undef, .int .i64 (i : Int), a.tmps.getD 6 undef, a.tmps.getD 7 undef, a.tmps.getD 8 undef, a.tmps.getD 9 undef, a.tmps.getD 10 undef, a.tmps.getD 11 undef, a.tmps.getD 12 undef, a.tmps.getD 13 undef, a.tmps.getD 14 undef, a.tmps.getD 15 undef, a.tmps.getD 16 undef, a.tmps.getD 17 undef, a.tmps.getD 18 undef, a.tmps.getD 19 undef, a.tmps.getD 20 undef, a.tmps.getD 21 undef, a.tmps.getD 22 undef, a.tmps.getD 23 undef, a.tmps.getD 24 undef, a.tmps.getD 25 undef, a.tmps.getD 26 undef, a.tmps.getD 27 undef, a.tmps.getD 28 undef, a.tmps.getD 29 undef, a.tmps.getD 30 undef, a.tmps.getD 31 undef, a.tmps.getD 32 undef, a.tmps.getD 33 undef, a.tmps.getD 34 undef, a.tmps.getD 35 undef, a.tmps.getD 36 undef, a.tmps.getD 37 undef, a.tmps.getD 38 undef, a.tmps.getD 39 undef, a.tmps.getD 40 undef, a.tmps.getD 41 undef, a.tmps.getD 42 undef, a.tmps.getD 43 undef, a.tmps.getD 44 undef, a.tmps.getD 45 undef, a.tmps.getD 46 undef, a.tmps.getD 47 undef, a.tmps.getD 48 undef, a.tmps.getD 49 undef, a.tmps.getD 50 undef, a.tmps.getD 51 undef, a.tmps.getD 52 undef, a.tmps.getD 53 undef, a.tmps.getD 54 undef, a.tmps.getD 55 undef, a.tmps.getD 56 undef, a.tmps.getD 57 undef, a.tmps.getD 58 undef, a.tmps.getD 59 undef, a.tmps.getD 60 undef, a.tmps.getD 61 undef, a.tmps.getD 62 undef, a.tmps.getD 63 undef, a.tmps.getD 64 undef, a.tmps.getD 65 undef, a.tmps.getD 66 undef, a.tmps.getD 67 undef, a.tmps.getD 68 undef, a.tmps.getD 69 undef, a.tmps.getD 70 undef, a.tmps.getD 71 undef, a.tmps.getD 72 undef, a.tmps.getD 73 undef, a.tmps.getD 74 undef, a.tmps.getD 75 undef, a.tmps.getD 76 undef, a.tmps.getD 77 undef, a.tmps.getD 78 undef, a.tmps.getD 79 undef, a.tmps.getD 80 undef, a.tmps.getD 81 undef, a.tmps.getD 82 undef, a.tmps.getD 83 undef, a.tmps.getD 84 undef, a.tmps.getD 85 undef, a.tmps.getD 86 undef, a.tmps.getD 87 undef, a.tmps.getD 88 undef, a.tmps.getD 89 undef, a.tmps.getD 90 undef, a.tmps.getD 91 undef, a.tmps.getD 92 undef, a.tmps.getD 93 undef, a.tmps.getD 94 undef, a.tmps.getD 95 undef, a.tmps.getD 96 undef, a.tmps.getD 97 undef, a.tmps.getD 98 undef, a.tmps.getD 99 undef, a.tmps.getD 100 undef, a.tmps.getD 101 undef, a.tmps.getD 102 undef, a.tmps.getD 103 undef, a.tmps.getD 104 undef, a.tmps.getD 105 undef, a.tmps.getD 106 undef, a.tmps.getD 107 undef, a.tmps.getD 108 undef, a.tmps.getD 109 undef, a.tmps.getD 110 undef, a.tmps.getD 111 undef, a.tmps.getD 112 undef, a.tmps.getD 113 undef, a.tmps.getD 114 undef, a.tmps.getD 115 undef, a.tmps.getD 116 undef, a.tmps.getD 117 undef, a.tmps.getD 118 undef, a.tmps.getD 119 undef, a.tmps.getD 120 undef, a.tmps.getD 121 undef, a.tmps.getD 122 undef], defers := [] }) (h : i < s.size) (hb : 128 ≤ (s[i]'h).toNat) : foldJ s t w a w :=
  ⟨i, fun k => a.tmps.getD k undef, ha, rfl, h, hb⟩

theorem plain_at {t : ByteArray} (h : Plain t.data.toList) (i : Nat) (hi : i < t.size) : (t[i]'hi).toNat < 128 ∧ (t[i]'hi).toNat ≠ 75 ∧ (t[i]'hi).toNat ≠ 107 :=
  h _ (List.mem_of_getElem? (Lib.data_getElem? t i hi))
theorem plain_ext {t : ByteArray} (h : Plain t.data.toList) (i : Nat) : Plain (t.extract i t.size).data.toList := by
  rw [ext_list]
  exact fun y hy => h y (List.mem_of_mem_drop hy)

theorem fold_cut (s t : ByteArray) (hst : s.size = t.size) (hbig : s.size ≤ 4096) (hP : Plain t.data.toList) (i : Nat) (his : i < s.size) (hbs : 128 ≤ (s[i]'his).toNat) :
    ∃ s2 t2 n, (∀ W, (Instr.slice 9 (.string s) (some (.int .i64 (i : Int))) none none).run Tryd.prog W = .ok (.string s2) W) ∧ (∀ W, (Instr.slice 9 (.string t) (some (.int .i64 (i : Int))) none none).run Tryd.prog W = .ok (.string t2) W) ∧
      Hid (s2.size = n) ∧ Hid (t2.size = n) ∧ Hid (Plain t2.data.toList) ∧ Hid (∃ h : 0 < s2.size, 128 ≤ (s2[0]'h).toNat) ∧ n ≤ 4096 ∧ (i : Int) ≤ (s.size : Int) ∧ sameT s.data.toList t.data.toList = false := by
  have hse := ext_size s i
  have hte := ext_size t i
  have h0 : 0 < (s.extract i s.size).size := by rw [hse]; omega
  refine ⟨s.extract i s.size, t.extract i t.size, s.size - i, fun W => run_cut_end (P := Tryd.prog) 9 Tryd.underlying9 s i (i : Int) rfl (Nat.le_of_lt his) W,
    fun W => run_cut_end (P := Tryd.prog) 9 Tryd.underlying9 t i (i : Int) rfl (by omega) W, hse, by rw [hst]; exact hte, plain_ext hP i, ⟨h0, ?_⟩, by omega, by omega, ?_⟩
  · have hs0 : (s.extract i s.size)[0]'h0 = s[i]'his := by
      rw [ByteArray.getElem_extract]
      simp
    rw [hs0]
    exact hbs
  · cases hb : sameT s.data.toList t.data.toList with
    | false => rfl
    | true =>
      have := sameT_big hb (fun y hy => (hP y hy).1) _ (List.mem_of_getElem? (Lib.data_getElem? s i his))
      omega
/-- The first letter of a text that begins with one of the first 128. -/
theorem dec_any (T : ByteArray) (h0 : 0 < T.size) (y : Nat) (hy : (T[0]'h0).toNat = y) (h : y < 128) (w : World) : Calls Tryd.prog 23 #[.string T] w fun e w' => e = .returned (.tuple #[.int .i32 (y : Int), .int .i64 1]) ∧ w = w' := by
  have hb : (y : Int) < 128 := by omega
  have hne : (T.toList == ([] : List UInt8)) = false := by
    rw [Lib.toList_data]
    cases hl : T.data.toList with
    | nil => have : T.size = 0 := by rw [Lib.size_eq, hl]; rfl
             omega
    | cons _ _ => rfl
  have h0' : (0 : Int) < (T.size : Int) := by omega
  clear h
  go_enter Tryd.func23, Tryd.ntmps23
  go_wp2
  go_ret2
  exact ⟨rfl, rfl⟩
end Go.Proofs.YtamekbpmbmggoaaDoor
