/-
  What lex calls of the library: bytes.TrimLeft at a blank, bytes.IndexByte, strings.IndexByte in two texts, strings.ContainsFunc at foreign bytes.
-/
import Derived.Test.YtbbgdcnnacakjaaDoorYFit
import Derived.Test.YtbbgdcnnacakjaaDoorShelfY
import Derived.Laws.RangeAny
import Derived.Laws.RangeString
namespace Go.Proofs.YtbbgdcnnacakjaaDoor
open Go.RowKit Go.Instr

theorem bt_at {w : World} {A : Option Addr} {n c : Nat} {l : List UInt8} (hs : Bt w A n c l) : Lib.BytesAt w A n l := fun hn => by
  obtain ⟨b, o, hA, hc⟩ := (sl_in hs.sl) hn
  refine ⟨b, o, hA, fun i hi => ?_⟩
  rw [hc i hi, nums_get l i (by rw [hs.len]; exact hi)]
  simp [List.getD, show i < l.length by rw [hs.len]; exact hi]
theorem trimLeft_eq (l : List UInt8) : Lib.trimLeftS l [32] = trimL l := by
  unfold Lib.trimLeftS trimL
  congr 1
  funext c
  simp
  rfl
section
variable {w : World} {A : Option Addr} {n c : Nat} {l : List UInt8}
theorem trimLeft_any (hs : Bt w A n c l) : Calls Tryd.prog 22 #[.slice A n c, .string ⟨#[32]⟩] w fun e w' => ∃ A2 n2 c2, e = .returned (.slice A2 n2 c2) ∧ w = w' ∧ Bt w A2 n2 c2 (trimL l) ∧ ∀ k ∈ blks A2, k ∈ blks A := by
  have hl := hs.len
  rcases Nat.eq_zero_or_pos n with h0 | h0
  · subst h0
    obtain rfl : l = [] := List.eq_nil_of_length_eq_zero hl
    clear hs
    obtain ⟨t, ht⟩ : ∃ t, ByteArray.mk #[32] = t := ⟨_, rfl⟩
    rw [ht]
    clear ht
    go_enter Tryd.func22, Tryd.ntmps22
    go_wp2
    go_ret
    exact ⟨none, 0, 0, rfl, rfl, Bt.none_ _, fun _ h => nomatch h⟩
  · refine (Tryd.bytes_TrimLeft_one A n c l 32 w hl hs.cap hs.max (bt_at hs) h0 (by decide)).mono fun e w' he => ?_
    rw [trimLeft_eq] at he
    have hle := trimL_len l
    have hd : trimL l = l.drop (n - (trimL l).length) := by
      have h1 : l.takeWhile (fun c => c == 32) ++ trimL l = l := List.takeWhile_append_dropWhile
      have h2 : (l.takeWhile (fun c => c == 32)).length + (trimL l).length = n := by rw [← List.length_append, h1, hl]
      have h3 : n - (trimL l).length = (l.takeWhile (fun c => c == 32)).length := by omega
      rw [h3]
      exact (drop_tw _ l).symm
    unfold Lib.leftV at he
    split at he
    · rename_i hj
      have he0 : trimL l = [] := List.eq_nil_of_length_eq_zero (by omega)
      rw [he0]
      exact ⟨none, 0, 0, he.1, he.2.symm, Bt.none_ _, fun _ h => nomatch h⟩
    · have hcut := hs.cut (k := n - (trimL l).length) (by omega)
      rw [← hd] at hcut
      exact ⟨_, _, _, he.1, he.2.symm, hcut, fun k hk => by rwa [blks_from] at hk⟩
theorem indexByte_any (hs : Bt w A n c l) (h0 : 0 < n) (x : UInt8) : Calls Tryd.prog 47 #[.slice A n c, bv x] w fun e w' => e = .returned (.int .i64 (if fi x l < l.length then (fi x l : Int) else -1)) ∧ w = w' := by
  obtain ⟨ad, rfl, _⟩ := hs.sl.2 h0
  refine (Tryd.bytes_IndexByte_at ad n c (nums l) x.toNat w (by rw [nums_len, hs.len]) (cells_of hs.sl)).mono fun e w' he => ⟨?_, he.2.symm⟩
  rw [he.1, nums_bytes]
  simp [index_fi]
end

/-! ### Small sets of bytes -/
theorem idx_neg (x : UInt8) (l : List UInt8) : (Lib.indexByte l x < 0) ↔ x ∉ l := by
  rw [index_fi]
  by_cases h : x ∈ l
  · have : fi x l < l.length := List.findIdx_lt_length_of_exists ⟨x, h, by simp⟩
    rw [if_pos this]
    constructor
    · intro h2; omega
    · intro h2; exact absurd h h2
  · have : ¬ fi x l < l.length := fun h2 => h (by
      have h3 : (l[fi x l] == x) = true := List.findIdx_getElem (w := h2)
      have h4 : l[fi x l] = x := by simpa using h3
      rw [← h4]
      exact List.getElem_mem h2)
    rw [if_neg this]
    exact ⟨fun _ => h, fun _ => by omega⟩
theorem ends_any (x : UInt8) (w : World) : Calls Tryd.prog 46 #[.string ⟨#[32, 40, 41, 34]⟩, .int .u8 (x.toNat : Int)] w fun e w' => (∃ I : Int, e = .returned (.int .i64 I) ∧ Hid (decide (0 ≤ I) = endsB x)) ∧ w = w' :=
  (Tryd.strings_IndexByte ⟨#[32, 40, 41, 34]⟩ x.toNat w).mono fun e w' he => ⟨⟨_, he.1, by
    show _ = _
    unfold endsB
    have h := idx_neg x [32, 40, 41, 34]
    rw [show ((x.toNat : Nat) : Int).toNat.toUInt8 = x by simp]
    show decide (0 ≤ Lib.indexByte [32, 40, 41, 34] x) = _
    rw [decide_eq_decide]
    simp only [List.mem_cons, List.not_mem_nil, or_false] at h
    constructor
    · intro h2
      exact Decidable.byContradiction fun h3 => by have := h.2 h3; omega
    · intro h2
      exact Decidable.byContradiction fun h3 => h.1 (by omega) h2⟩, he.2.symm⟩
def escB (c : UInt8) : Bool := decide (c = 34 ∨ c = 92)
theorem esc_any (x : UInt8) (w : World) : Calls Tryd.prog 46 #[.string ⟨#[34, 92]⟩, .int .u8 (x.toNat : Int)] w fun e w' => (∃ I : Int, e = .returned (.int .i64 I) ∧ Hid (decide (I < 0) = !escB x)) ∧ w = w' :=
  (Tryd.strings_IndexByte ⟨#[34, 92]⟩ x.toNat w).mono fun e w' he => ⟨⟨_, he.1, by
    show _ = _
    unfold escB
    have h := idx_neg x [34, 92]
    rw [show ((x.toNat : Nat) : Int).toNat.toUInt8 = x by simp]
    show decide (Lib.indexByte [34, 92] x < 0) = _
    simp only [List.mem_cons, List.not_mem_nil, or_false] at h
    by_cases h2 : x = 34 ∨ x = 92
    · rw [decide_eq_true h2, decide_eq_false (fun h3 => h.1 h3 h2)]; rfl
    · rw [decide_eq_false h2, decide_eq_true (h.2 h2)]; rfl⟩, he.2.symm⟩

/-! ### Foreign bytes in a text -/
def foreignR (r : Nat) : Bool := decide (r < 32) || decide (126 < r)
theorem foreign_any (x : Nat) (W : World) (hx : x ≤ 1114111) : Calls Tryd.prog 37 #[.int .i32 (x : Int)] W fun e w' => e = .returned (.bool (foreignR x)) ∧ W = w' := by
  by_cases h1 : x < 32
  · have HE : Hid (foreignR x = true) := by show _ = _; unfold foreignR; rw [decide_eq_true h1]; rfl
    have h1' : (x : Int) < 32 := by omega
    go_enter Tryd.func37, Tryd.ntmps37
    go_wp2
    go_ret
    exact ⟨by rw [HE.out]; rfl, rfl⟩
  · have h1' : ¬ (x : Int) < 32 := by omega
    by_cases h2 : 126 < x
    · have HE : Hid (foreignR x = true) := by show _ = _; unfold foreignR; rw [decide_eq_true h2]; simp
      have h2' : (126 : Int) < (x : Int) := by omega
      go_enter Tryd.func37, Tryd.ntmps37
      go_wp2
      go_ret
      exact ⟨by rw [HE.out]; rfl, rfl⟩
    · have HE : Hid (foreignR x = false) := by show _ = _; unfold foreignR; rw [decide_eq_false h1, decide_eq_false h2]; rfl
      have h2' : ¬ (126 : Int) < (x : Int) := by omega
      go_enter Tryd.func37, Tryd.ntmps37
      go_wp2
      go_ret
      exact ⟨by rw [HE.out]; rfl, rfl⟩
theorem idx_from (s : ByteArray) : ∀ (f pos : Nat), s.size ≤ pos + f → decide (0 ≤ Lib.idxFuncFrom foreignR true s f pos) = (s.data.toList.drop pos).any foreignB
  | 0, pos, h => by
    rw [List.drop_of_length_le (by simp; omega)]
    rfl
  | f + 1, pos, h => by
    unfold Lib.idxFuncFrom
    by_cases hp : pos < s.size
    · rw [if_pos hp]
      have hl : pos < s.data.toList.length := by simpa using hp
      have hg : s.data.toList[pos] = s[pos] := by simp [ByteArray.getElem_eq_getElem_data]
      rw [List.drop_eq_getElem_cons hl, List.any_cons, hg]
      by_cases ha : (s[pos]).toNat < 128
      · rw [decode_ascii s pos hp ha]
        have he : foreignR (s[pos]).toNat = foreignB s[pos] := rfl
        simp only
        rw [he]
        cases hb : foreignB s[pos]
        · rw [if_neg (by decide), Bool.false_or]
          exact idx_from s f (pos + 1) (by omega)
        · rw [if_pos rfl, Bool.true_or]
          exact decide_eq_true (by omega)
      · have hd := (decode_high s pos hp (by omega)).1
        have h1 : foreignR (Utf8.decode s pos).1 = true := by unfold foreignR; rw [decide_eq_true (p := 126 < _) (by omega)]; simp
        have h2 : foreignB s[pos] = true := by unfold foreignB; rw [decide_eq_true (p := 126 < _) (by omega)]; simp
        rw [if_pos h1, h2, Bool.true_or]
        exact decide_eq_true (by omega)
    · rw [if_neg hp, List.drop_of_length_le (by simp; omega)]
      rfl
theorem enters_foreign : ∀ args w, (callFunc 37 args).run Tryd.prog w = .ok (.enter 37 args) w := Go.Proofs.enters_of Tryd.func37 (by kernel_rfl) rfl
theorem contains_any (s : ByteArray) (w : World) : Calls Tryd.prog 36 #[.string s, .func (.func 37) #[] #[]] w fun e w' => e = .returned (.bool (s.data.toList.any foreignB)) ∧ Only [] w w' :=
  (Tryd.strings_ContainsFunc_runes 37 #[] enters_foreign foreignR s w (fun W x hx _ => (foreign_any x W hx).mono fun e w' he => ⟨he.1, 0, he.2.symm⟩)).mono fun e w' he => ⟨by
    rw [he.1]
    unfold Lib.idxFunc
    rw [idx_from s s.size 0 (by omega), List.drop_zero], Only.of_below he.2⟩
end Go.Proofs.YtbbgdcnnacakjaaDoor
