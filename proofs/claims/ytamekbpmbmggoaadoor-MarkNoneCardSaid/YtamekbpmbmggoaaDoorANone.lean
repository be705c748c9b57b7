/-
  The walk of the law MarkNone.
-/
import Derived.Test.YtamekbpmbmggoaaDoorAKnown
import Derived.Test.YtamekbpmbmggoaaDoorRel
import Derived.Test.YtamekbpmbmggoaaDoorRelOps
namespace Go.Proofs.YtamekbpmbmggoaaDoor
open Go.RowKit Go.Instr

section
variable {P : Program} {w : World}
theorem own_empty (w : World) (t : TypeId) : Own (w.alloc (.cells #[] t)) t (some ⟨w.heap.size, 0, none⟩) 0 0 [] :=
  ⟨rfl, .inr ⟨w.heap.size, 0, #[], rfl, Nat.zero_le _, heap_alloc_new w _, Nat.le_refl _, Nat.zero_le _, rfl, rfl⟩⟩
/-- append behind an empty row without room: nothing that was there is written. -/
theorem run_append_zero (t ty e : TypeId) (i : TypeInfo) (z : Value) (bytes : Nat) (ht : P.underlying t = some (.slice e)) (hi : P.info? e = some i) (hz : i.zero = some z)
    (hsize : i.size = 1) (hby : i.bytes = bytes) (hzs : z.cells.size = 1) (g : Nat) (hown : Own w e (some ⟨g, 0, none⟩) 0 0 [])
    (A2 : Option Addr) (m c2 : Nat) (news : List Value) (hr : Sl w A2 m news) (h1 : ∀ u ∈ news, u.oneCell' = true) (h63 : m ≤ maxLen) (hbytes : m * bytes ≤ 140737488355328) :
    ∃ A' c' w', (Builtin.append_ #[t, t] ty #[.slice (some ⟨g, 0, none⟩) 0 0, .slice A2 m c2]).run P w = .ok (.slice A' m c') w' ∧ Own w' e A' m c' news ∧ Only [] w w' ∧ (∀ k ∈ blks A', k = g ∨ w.heap.size ≤ k) := by
  by_cases hm : m = 0
  · subst hm
    obtain rfl : news = [] := List.eq_nil_of_length_eq_zero hr.len
    refine ⟨some ⟨g, 0, none⟩, 0, w, ?_, hown, Only.refl _ _, fun k hk => .inl (by simpa using hk)⟩
    cases A2 <;> simp [Builtin.append_, run_underlying ht, sizeOf, typeInfo, hi, Builtin.lenOf, Builtin.firstCells, loadCells, loadCellsFrom, storeCells]
  · obtain ⟨ad, rfl, hcell⟩ := hr.2 (by omega)
    obtain ⟨v', w', hrun, h2, h3, h4, h5⟩ := run_append_own_at (P := P) w 0 t ty e i z 1 bytes ht hi hz hsize hby hzs (by omega) _ 0 [] hown ad m c2 news (by have := hr.len; omega) (fun j u hu => hcell j u hu) h1 (by omega) (by simpa using hbytes) (Nat.zero_le _)
    have hg := run_append_grow (P := P) w t ty e i z ht hi hz ⟨g, 0, none⟩ 0 0 [] (by simp) (by intro j v hj; simp at hj) ad m c2 news (by rw [hr.len, hsize, Nat.mul_one]) (fun j u hu => hcell j u hu) (by omega) (by unfold maxLen at h63; omega) (by rw [hby]; exact growslice_fits (by omega) (by simpa using hbytes))
    rw [hrun] at hg
    simp only [Nat.zero_add, List.nil_append] at hg h2
    injection hg with hv hw
    subst hv hw
    refine ⟨_, _, _, hrun, h2, ?_, fun k hk => .inr ?_⟩
    · exact (Only.refl [] w).drew.alloc _
    · simp at hk; omega
theorem gives_append_zero {T : World → World → Prop} {φ : Value → World → Prop} {o : Oper} {a : Act} (s x : Operand) (t : TypeId)
    (ho : o.op = .call { callee := .builtin .append, args := #[s, x], argTypes := #[t, t] }) (e : TypeId) (i : TypeInfo) (z : Value) (bytes : Nat) (ht : P.underlying t = some (.slice e)) (hi : P.info? e = some i)
    (hz : i.zero = some z) (hsize : i.size = 1) (hby : i.bytes = bytes) (hzs : z.cells.size = 1) (g : Nat) (hs : a.eval s = .slice (some ⟨g, 0, none⟩) 0 0) (hown : Own w e (some ⟨g, 0, none⟩) 0 0 [])
    (A2 : Option Addr) (m c2 : Nat) (news : List Value) (hx : a.eval x = .slice A2 m c2) (hr : Sl w A2 m news) (h1 : ∀ u ∈ news, u.oneCell' = true) (h63 : m ≤ maxLen) (hbytes : m * bytes ≤ 140737488355328)
    (h : ∀ A' c' w', Own w' e A' m c' news → Only [] w w' → (∀ k ∈ blks A', k = g ∨ w.heap.size ≤ k) → φ (.slice A' m c') w' ∧ T w w') : GivesR P T w φ ((execOp a.eval o).run P w) := by
  obtain ⟨A', c', w', hrun, h2, h3, h4⟩ := run_append_zero (P := P) t o.type e i z bytes ht hi hz hsize hby hzs g hown A2 m c2 news hr h1 h63 hbytes
  have e : (execOp a.eval o).run P w = .ok (.value (.slice A' m c')) w' := by
    unfold execOp
    simp only [ho, resolve, invoke, builtin, Sem.run_bind, Sem.run_pure, Result.andThen_ok, List.map_toArray, List.map_cons, List.map_nil, hs, hx, hrun]
  rw [e]
  exact h A' c' w' h2 h3 h4
theorem gives_append_as {T : World → World → Prop} {φ : Value → World → Prop} {o : Oper} {a : Act} (s x : Operand) (t : TypeId)
    (ho : o.op = .call { callee := .builtin .append, args := #[s, x], argTypes := #[t, t] }) (e : TypeId) (i : TypeInfo) (z : Value) (bytes : Nat) (ht : P.underlying t = some (.slice e)) (hi : P.info? e = some i)
    (hz : i.zero = some z) (hsize : i.size = 1) (hby : i.bytes = bytes) (hzs : z.cells.size = 1) (A : Option Addr) (n c : Nat) (xs : List Value) (hs : a.eval s = .slice A n c) (hown : Own w e A n c xs)
    (A2 : Option Addr) (m c2 : Nat) (news : List Value) (hx : a.eval x = .slice A2 m c2) (hr : Sl w A2 m news) (h1 : ∀ u ∈ news, u.oneCell' = true) (h63 : n + m ≤ maxLen) (hbytes : (n + m) * bytes ≤ 140737488355328) (q : Nat) (hq : n + m = q)
    (h : ∀ A' c' w', Own w' e A' q c' (xs ++ news) → Only (blks A) w w' → (∀ k ∈ blks A', k ∈ blks A ∨ w.heap.size ≤ k) → φ (.slice A' q c') w' ∧ T w w') : GivesR P T w φ ((execOp a.eval o).run P w) := by
  subst hq
  exact gives_append_sl s x t ho e i z bytes ht hi hz hsize hby hzs A n c xs hs hown A2 m c2 news hx hr h1 h63 hbytes h
end
theorem low16 (n : Int) : bits .and .i64 n 65535 = n % 65536 := by
  have h16 : (BitVec.ofInt 64 65535).toNat = 2 ^ 16 - 1 := by decide
  have key : (BitVec.ofInt 64 n &&& BitVec.ofInt 64 65535).toNat = (n % ((2 ^ 64 : Nat) : Int)).toNat % 2 ^ 16 := by
    rw [BitVec.toNat_and, BitVec.toNat_ofInt, h16, Nat.and_two_pow_sub_one_eq_mod]
  show IntKind.i64.wrap ((BitVec.ofInt 64 n &&& BitVec.ofInt 64 65535).toNat : Nat) = n % 65536
  rw [key, IntKind.wrap_i64]
  omega
/-- A text that does not begin with a stroke is no flag's word. -/
theorem flagL_bad {l : List UInt8} (h : ∀ x ∈ l.head?, x.toNat ≠ 92) : flagL l = 0 := flagL_no fun k hk => by
  cases e : sameT l (nm k) with
  | false => rfl
  | true =>
    have hl := sameT_len e
    have h5 := (nm_len k).1
    cases l with
    | nil => simp at hl; omega
    | cons x r =>
      obtain ⟨y, hy⟩ : ∃ y, nm k = 92 :: y := by
        rcases (by omega : k = 0 ∨ k = 1 ∨ k = 2 ∨ k = 3 ∨ k = 4) with rfl | rfl | rfl | rfl | rfl <;> exact ⟨_, rfl⟩
      rw [hy, sameT_cons, Bool.and_eq_true, decide_eq_true_eq] at e
      have := (low_eq _ _).1 e.1
      have h92 : (92 : UInt8).toNat = 92 := rfl
      have hx := h x (by simp)
      omega
theorem parseL_none : ∀ (ls : List (List UInt8)) (f : Nat) (l : List UInt8), l ∈ ls → flagL l = 0 → parseL ls f = none
  | x :: r, f, l, hm, h0 => by
    unfold parseL
    split
    · rfl
    · rename_i hx
      rcases List.mem_cons.1 hm with rfl | hm
      · exact absurd h0 hx
      · exact parseL_none r _ l hm h0
theorem cut_texts {A : Option Addr} {n c k : Nat} (hk : k ≤ n) (hnc : n ≤ c) (hnil : A = none → c = 0) : ∃ A2 c2, (∀ W, (Instr.slice 22 (.slice A n c) (some (.int .i64 (k : Int))) none none).run Tryd.prog W = .ok (.slice A2 (n - k) c2) W) ∧ A2 = (if c = k then A else A.map (·.add k)) := by
  refine ⟨_, c - k, fun W => ?_, rfl⟩
  have h1 : (k : Int) ≤ (n : Int) := by omega
  by_cases hcH : c = k
  · subst hcH
    go_simp
  · cases A with
    | none => have := hnil rfl; omega
    | some ad => go_simp
theorem pre_texts {A : Option Addr} {n c k : Nat} (hk : k ≤ n) (hnc : n ≤ c) : ∀ W, (Instr.slice 22 (.slice A n c) none (some (.int .i64 (k : Int))) none).run Tryd.prog W = .ok (.slice A k c) W := fun W => by
  have h1 : (k : Int) ≤ (c : Int) := by omega
  go_simp
theorem run_ix0 (s : ByteArray) (h : 0 < s.size) (y : Nat) (hy : (s[0]'h).toNat = y) (W : World) : (Instr.index 9 (.string s) (.int .i64 0)).run Tryd.prog W = .ok (.int .u8 (y : Int)) W := by
  subst hy
  rw [run_index_string W 9 s .i64 0 Tryd.underlying9, dif_pos ⟨by omega, by omega⟩]
  simp

set_option maxHeartbeats 4000000 in
set_option maxRecDepth 100000 in
theorem none_any {A : Option Addr} {n c : Nat} {ls : List ByteArray} (at0 : Int) (b : ByteArray) {w : World} (hS : Sl w A n (strs ls)) (hnc : n ≤ c) (hnil : A = none → c = 0) (hn : n ≤ 140737488351232) (hL : Laid w) :
    Calls Tryd.prog 6 #[.slice A n c, .int .i64 at0, .string b] w fun e w' => e = .returned (.bool true) ∧ Only [] w w' := by
  obtain ⟨i0, hi, hz0, hz1, hz2⟩ := infoStr_of
  have HL := Lib.hid hL
  have HS := Lib.hid hS
  have HNC := Lib.hid hnc
  have HNIL := Lib.hid hnil
  have HLN : Hid (ls.length = n) := by show _ = _; simpa using hS.len
  clear hS hL hnc hnil
  by_cases hn20 : 20 < n
  · have h1 : (20 : Int) < (n : Int) := by omega
    go_enter Tryd.func6, Tryd.ntmps6
    go_wp2
    go_ret
    exact ⟨rfl, Only.refl _ _⟩
  have h1 : ¬ (20 : Int) < (n : Int) := by omega
  by_cases hb40 : 40 < b.size
  · have h2 : (40 : Int) < (b.size : Int) := by omega
    clear hn20
    go_enter Tryd.func6, Tryd.ntmps6
    go_wp2
    go_ret
    exact ⟨rfl, Only.refl _ _⟩
  have h2 : ¬ (40 : Int) < (b.size : Int) := by omega
  have hn20' : n ≤ 20 := by omega
  clear hn20 hn hb40
  have main : (∀ x ∈ b.data.toList.head?, x.toNat ≠ 92) → (0 < b.size → ∃ y : Nat, ((y : Int) == 92) = false ∧ ∀ W, (Instr.index 9 (.string b) (.int .i64 0)).run Tryd.prog W = .ok (.int .u8 (y : Int)) W) → Calls Tryd.prog 6 #[.slice A n c, .int .i64 at0, .string b] w fun e w' => e = .returned (.bool true) ∧ Only [] w w' := by
    intro hbad hbix
    have HBAD := Lib.hid (flagL_bad hbad)
    clear hbad
    have hcases : (0 < (b.size : Int) ∧ ∃ y : Nat, ((y : Int) == 92) = false ∧ ∀ W, (Instr.index 9 (.string b) (.int .i64 0)).run Tryd.prog W = .ok (.int .u8 (y : Int)) W) ∨ ¬ (0 < (b.size : Int)) := by
      by_cases h0 : 0 < b.size
      · exact .inl ⟨by omega, hbix h0⟩
      · exact .inr (by omega)
    clear hbix
    have tail : Hid (0 = 0) := rfl
    rcases hcases with ⟨h3, y, h4, h5⟩ | h3
    · go_enter Tryd.func6, Tryd.ntmps6
      go_wp2
      go_loopw [7] (fun iv wr => wr = w ∧ ∃ (i : Nat), iv = .int .i64 (i : Int) ∧ i ≤ n) (fun iv _ => n - (intOf iv).toNat)
      case atStart => exact ⟨rfl, 0, rfl, by omega⟩
      case round =>
        obtain ⟨rfl, i, rfl, hi2⟩ := hrel
        by_cases hlt : i < n
        · have hlt' : (i : Int) < (n : Int) := by omega
          have hil : i < ls.length := by rw [HLN.out]; exact hlt
          obtain ⟨ad, rfl, hc0⟩ := strs_at HS.out hlt hil
          obtain ⟨s, hs⟩ : ∃ s, ls[i] = s := ⟨_, rfl⟩
          rw [hs] at hc0
          have hki : (i : Int) + 1 ≤ 140737488355328 := by omega
          have HM : Hid (n - (intOf (.int .i64 ((i : Int) + 1))).toNat < n - (intOf (.int .i64 (i : Int))).toNat) := by
            show _ < _
            simp [intOf]
            omega
          have HI := Lib.hid hlt
          clear hs hil hlt hi2
          by_cases h40 : (40 : Int) < (s.size : Int)
          · go_wp2
            go_ret
            exact ⟨rfl, Only.refl _ _⟩
          · go_wp2
            exact ⟨⟨trivial, i + 1, by simp, HI.out⟩, HM.out⟩
        · obtain rfl : i = n := by omega
          clear hlt hi2
          obtain ⟨k, hk⟩ : ∃ k : Nat, k = (at0 % 65536).toNat % (i + 1) := ⟨_, rfl⟩
          have hkn : k ≤ i := by have := Nat.mod_lt (at0 % 65536).toNat (show 0 < i + 1 by omega); omega
          obtain ⟨a, ha⟩ : ∃ a : Int, bits .and .i64 at0 65535 = a := ⟨_, rfl⟩
          have hmod : a.tmod ((i : Int) + 1) = (k : Int) := by
            rw [← ha, low16, hk]
            have h0 : 0 ≤ at0 % 65536 := by omega
            rw [Int.tmod_eq_emod_of_nonneg h0, Int.natCast_emod, Int.toNat_of_nonneg h0]
            rfl
          have hne : ¬ ((i : Int) + 1 = 0) := by omega
          have hwr : IntKind.i64.wrap ((i : Int) + 1) = (i : Int) + 1 := IntWalk.i64_in _ (by omega)
          have hwk : IntKind.i64.wrap (k : Int) = (k : Int) := IntWalk.i64_in _ (by omega)
          obtain ⟨A2, c2, hcut, hA2⟩ := cut_texts hkn HNC.out HNIL.out
          have HCU := Lib.hid hcut
          have HPR := Lib.hid (pre_texts (A := A) hkn HNC.out)
          have HSP : Hid (Sl wr A k (strs (ls.take k))) := by
            have := HS.out.pre hkn
            have e : (strs ls).take k = strs (ls.take k) := by simp [strs, List.map_take]
            rwa [e] at this
          have HSC0 : Sl wr A2 (i - k) (strs (ls.drop k)) := by
            have := HS.out.cut hkn HNC.out
            have e : (strs ls).drop k = strs (ls.drop k) := by simp [strs, List.map_drop]
            rw [e, ← hA2] at this
            exact this
          obtain ⟨m, hm⟩ : ∃ m, i - k = m := ⟨_, rfl⟩
          rw [hm] at HSC0 HCU
          have HSC : Hid (∀ W, Only [] wr.drew W → Sl W A2 m (strs (ls.drop k))) := fun W hW => HSC0.keep ((Only.refl [] _).drew.then hW)
          obtain ⟨q, hq⟩ : ∃ q, q = k + 1 + m := ⟨_, rfl⟩
          have HQ : Hid (q = k + 1 + m ∧ q ≤ 21) := ⟨hq, by omega⟩
          have HK : Hid (k ≤ 20) := by show _ ≤ _; omega
          have HPA : Hid (∀ W (A3 : Option Addr) (c3 : Nat), Own W 9 A3 q c3 (strs (ls.take k) ++ [Value.string b] ++ strs (ls.drop k)) → Only [] wr.drew W → Calls Tryd.prog 7 #[.slice A3 q c3] W fun e w' => e = .returned (.tuple #[.int .i64 0, .int .i64 3]) ∧ Only [] W w') := fun W A3 c3 hV hO => by
            have hS := hV.sl
            have e : strs (ls.take k) ++ [Value.string b] ++ strs (ls.drop k) = strs (ls.take k ++ [b] ++ ls.drop k) := by simp [strs]
            rw [e] at hS
            have h := Parse_any (c := c3) hS (by have := HQ.out.2; omega) (HL.out.only ((Only.refl [] _).drew.then hO))
            have hp := parseL_none (datas (ls.take k ++ [b] ++ ls.drop k)) 0 b.data.toList (by simp [datas]) HBAD.out
            have hF : parseF (datas (ls.take k ++ [b] ++ ls.drop k)) = 0 := by unfold parseF; rw [hp]; rfl
            have hE : parseE (datas (ls.take k ++ [b] ++ ls.drop k)) = 3 := by unfold parseE; rw [hp]; rfl
            rw [hF, hE] at h
            exact h
          have HP0 : Hid (∀ W, Laid W → Calls Tryd.prog 7 #[.slice none 0 0] W fun e w' => e = .returned (.tuple #[.int .i64 0, .int .i64 0]) ∧ Only [] W w') := fun W hW => Parse_any (w := W) (A := none) (n := 0) (c := 0) (ls := []) Sl.none_ (by omega) hW
          have HW := Lib.hid hwk
          clear hk hkn hcut hA2 HSC0 hm hq hn20' hwk
          go_wp2_with fail
          apply region_writes (rs := []) (Ws := [7, 11]) (by kernel_rfl) (by kernel_rfl)
          apply rel_fact (φ := fun v W => ∃ g, v = .slice (some ⟨g, 0, none⟩) 0 0 ∧ Own W 9 (some ⟨g, 0, none⟩) 0 0 [] ∧ wr.heap.size ≤ g) (x := 4) (hs := lasts0 (by kernel_rfl) (fun v W W' h ho => by obtain ⟨g, h1, h2, h3⟩ := h; exact ⟨g, h1, h2.keep ho, h3⟩))
          case hw => rfl
          case hy =>
            intro wS hN hF
            have hO := (hN.pre (by kernel_rfl)).size
            refine gives_value (u := .slice (some ⟨wS.heap.size, 0, none⟩) 0 0) (w' := wS.alloc (.cells #[] 9)) ?_ ⟨_, rfl, own_empty _ _, hO⟩ (Tk_only ((Only.refl [] _).alloc _))
            go_simp
          case' hk => intro v0
          try simp only [Act.put, List.setIfInBounds_toArray, List.set_cons_zero, List.set_cons_succ]
          apply rel_val (hrf := Tk_refl)
          case hw => rfl
          case hy => intro wS hN hF; skip; first | (go_simp; done) | (go_simp; with_reducible rfl)
          case' hk => skip
          try simp only [Act.put, List.setIfInBounds_toArray, List.set_cons_zero, List.set_cons_succ]
          apply rel_val (hrf := Tk_refl)
          case hw => rfl
          case hy => intro wS hN hF; skip; first | (go_simp; done) | (go_simp; with_reducible rfl)
          case' hk => skip
          try simp only [Act.put, List.setIfInBounds_toArray, List.set_cons_zero, List.set_cons_succ]
          apply rel_val (v := .slice A k c) (hrf := Tk_refl)
          case hw => rfl
          case hy =>
            intro wS hN hF
            have hp := HPR.out wS
            go_simp
          case' hk => skip
          try simp only [Act.put, List.setIfInBounds_toArray, List.set_cons_zero, List.set_cons_succ]
          apply rel_fact (φ := fun v W => ∃ A' c', v = .slice A' k c' ∧ Own W 9 A' k c' (strs (ls.take k)) ∧ ∀ x ∈ blks A', wr.heap.size ≤ x) (x := 7) (hs := lasts0 (by kernel_rfl) (fun v W W' h ho => by obtain ⟨A', c', h1, h2, h3⟩ := h; exact ⟨A', c', h1, h2.keep ho, h3⟩))
          case hw => rfl
          case hy =>
            intro wS hN hF
            obtain ⟨g, hv0, HV0, hg⟩ := hF.at_ 0 rfl (by kernel_rfl) (by kernel_rfl)
            subst hv0
            have hO := hN.pre (by kernel_rfl)
            exact gives_append_zero (.tmp 48) (.tmp 51) 22 rfl 9 i0 (.string ⟨#[]⟩) 16 Tryd.underlying22 hi hz0 hz1 hz2 rfl g rfl HV0 A k c (strs (ls.take k)) rfl (HSP.out.keep ((Only.refl [] _).drew.then hO)) (fun u hu => by obtain ⟨b, _, rfl⟩ := List.mem_map.1 hu; rfl) (by unfold maxLen; have := HK.out; omega) (by have := HK.out; omega)
              fun A3 c3 w3 HV3 HO3 HB3 => ⟨⟨A3, c3, rfl, HV3, fun x hx => by rcases HB3 x hx with h | h; omega; have := hO.size; simp at this; omega⟩, Tk_only HO3⟩
          case' hk => intro v4
          try simp only [Act.put, List.setIfInBounds_toArray, List.set_cons_zero, List.set_cons_succ]
          apply rel_val (hrf := Tk_refl)
          case hw => rfl
          case hy => intro wS hN hF; skip; first | (go_simp; done) | (go_simp; with_reducible rfl)
          case' hk => skip
          try simp only [Act.put, List.setIfInBounds_toArray, List.set_cons_zero, List.set_cons_succ]
          apply rel_fact (φ := fun v W => ∃ g, v = .slice (some ⟨g, 0, none⟩) 1 1 ∧ Sl W (some ⟨g, 0, none⟩) 1 [.string b]) (x := 7) (hs := lasts0 (by kernel_rfl) (fun v W W' h ho => by obtain ⟨g, h1, h2⟩ := h; exact ⟨g, h1, h2.keep ho⟩))
          case hw => rfl
          case hy =>
            intro wS hN hF
            refine gives_value (u := .slice (some ⟨wS.heap.size, 0, none⟩) 1 1) (w' := wS.alloc (.cells #[.string b] 9)) ?_ ⟨_, rfl, Sl.of_new _ _ _ _⟩ (Tk_only ((Only.refl [] _).alloc _))
            go_simp
          case' hk => intro v6
          try simp only [Act.put, List.setIfInBounds_toArray, List.set_cons_zero, List.set_cons_succ]
          apply rel_fact (φ := fun v W => ∃ A' c', v = .slice A' (k + 1) c' ∧ Own W 9 A' (k + 1) c' (strs (ls.take k) ++ [Value.string b]) ∧ ∀ x ∈ blks A', wr.heap.size ≤ x) (x := 11) (hs := lasts0 (by kernel_rfl) (fun v W W' h ho => by obtain ⟨A', c', h1, h2, h3⟩ := h; exact ⟨A', c', h1, h2.keep ho, h3⟩))
          case hw => rfl
          case hy =>
            intro wS hN hF
            obtain ⟨g, hv6, HS6⟩ := hF.at_ 0 rfl (by kernel_rfl) (by kernel_rfl)
            obtain ⟨A3, c3, hv4, HV3, HB3⟩ := hF.at_ 1 rfl (by kernel_rfl) (by kernel_rfl)
            subst hv6 hv4
            exact gives_append_sl (.tmp 52) (.tmp 54) 22 rfl 9 i0 (.string ⟨#[]⟩) 16 Tryd.underlying22 hi hz0 hz1 hz2 rfl A3 k c3 _ rfl HV3 (some ⟨g, 0, none⟩) 1 1 [.string b] rfl HS6 (fun u hu => by simp at hu; subst hu; rfl) (by unfold maxLen; have := HK.out; omega) (by have := HK.out; omega)
              fun A4 c4 w4 HV4 HO4 HB4 => ⟨⟨A4, c4, rfl, HV4, fun x hx => by rcases HB4 x hx with h | h; exact HB3 x h; have := hN.1.size; simp at this; omega⟩, Tk_writes rfl HO4 (fun x hx => .inr (HB3 x hx))⟩
          case' hk => intro v7
          try simp only [Act.put, List.setIfInBounds_toArray, List.set_cons_zero, List.set_cons_succ]
          apply rel_val (hrf := Tk_refl)
          case hw => rfl
          case hy => intro wS hN hF; skip; first | (go_simp; done) | (go_simp; with_reducible rfl)
          case' hk => skip
          try simp only [Act.put, List.setIfInBounds_toArray, List.set_cons_zero, List.set_cons_succ]
          apply rel_val (hrf := Tk_refl)
          case hw => rfl
          case hy => intro wS hN hF; skip; first | (go_simp; done) | (go_simp; with_reducible rfl)
          case' hk => skip
          try simp only [Act.put, List.setIfInBounds_toArray, List.set_cons_zero, List.set_cons_succ]
          apply rel_val (v := .slice A2 m c2) (hrf := Tk_refl)
          case hw => rfl
          case hy =>
            intro wS hN hF
            have hp := HCU.out wS
            go_simp
          case' hk => skip
          try simp only [Act.put, List.setIfInBounds_toArray, List.set_cons_zero, List.set_cons_succ]
          apply rel_fact (φ := fun v W => ∃ A' c', v = .slice A' q c' ∧ Own W 9 A' q c' (strs (ls.take k) ++ [Value.string b] ++ strs (ls.drop k)) ∧ ∀ x ∈ blks A', wr.heap.size ≤ x) (x := 12) (hs := lasts0 (by kernel_rfl) (fun v W W' h ho => by obtain ⟨A', c', h1, h2, h3⟩ := h; exact ⟨A', c', h1, h2.keep ho, h3⟩))
          case hw => rfl
          case hy =>
            intro wS hN hF
            obtain ⟨A3, c3, hv7, HV3, HB3⟩ := hF.at_ 0 rfl (by kernel_rfl) (by kernel_rfl)
            subst hv7
            have HS2 : Sl wS A2 m (strs (ls.drop k)) := HSC.out _ hN.1.only
            exact gives_append_as (.tmp 55) (.tmp 58) 22 rfl 9 i0 (.string ⟨#[]⟩) 16 Tryd.underlying22 hi hz0 hz1 hz2 rfl A3 (k + 1) c3 _ rfl HV3 A2 m c2 _ rfl HS2 (fun u hu => by obtain ⟨b, _, rfl⟩ := List.mem_map.1 hu; rfl) (by unfold maxLen; have := HQ.out; omega) (by have := HQ.out; omega) q (by have := HQ.out; omega)
              fun A4 c4 w4 HV4 HO4 HB4 => ⟨⟨A4, c4, rfl, HV4, fun x hx => by rcases HB4 x hx with h | h; exact HB3 x h; have := hN.1.size; simp at this; omega⟩, Tk_writes rfl HO4 (fun x hx => .inr (HB3 x hx))⟩
          case' hk => intro v11
          try simp only [Act.put, List.setIfInBounds_toArray, List.set_cons_zero, List.set_cons_succ]
          apply rel_fact_call (φ := fun v W => v = .tuple #[.int .i64 0, .int .i64 3]) (x := 9999) (hs := lasts (fun v W W' h _ => h))
          case hw => rfl
          case hc =>
            intro wS hN hF
            obtain ⟨A3, c3, hv11, HV3, HB3⟩ := hF.at_ 0 rfl (by kernel_rfl) (by kernel_rfl)
            subst hv11
            refine ⟨7, #[.slice A3 q c3], by go_simp, (HPA.out wS A3 c3 HV3 hN.1.only).mono ?_⟩
            rintro e w3 ⟨rfl, HO3⟩
            exact ⟨_, rfl, rfl, Tk_only HO3⟩
          case' hk => intro v12
          try simp only [Act.put, List.setIfInBounds_toArray, List.set_cons_zero, List.set_cons_succ]
          apply rel_fact (φ := fun v W => v = .tuple #[.int .i64 0, .int .i64 3]) (x := 9999) (hs := lasts (fun v W W' h _ => h))
          case hw => rfl
          case hy =>
            intro wS hN hF
            have h := hF.at_ 0 rfl (by kernel_rfl) (by kernel_rfl)
            refine gives_value (u := v12) (w' := wS) ?_ h (Tk_refl _)
            go_simp
          case' hk => intro v13
          try simp only [Act.put, List.setIfInBounds_toArray, List.set_cons_zero, List.set_cons_succ]
          apply rel_val (v := .int .i64 0) (hrf := Tk_refl)
          case hw => rfl
          case hy =>
            intro wS hN hF
            have h := hF.at_ 0 rfl (by kernel_rfl) (by kernel_rfl)
            subst h
            go_simp
          case' hk => skip
          try simp only [Act.put, List.setIfInBounds_toArray, List.set_cons_zero, List.set_cons_succ]
          apply rel_val (v := .int .i64 3) (hrf := Tk_refl)
          case hw => rfl
          case hy =>
            intro wS hN hF
            have h := hF.at_ 0 rfl (by kernel_rfl) (by kernel_rfl)
            subst h
            go_simp
          case' hk => skip
          try simp only [Act.put, List.setIfInBounds_toArray, List.set_cons_zero, List.set_cons_succ]
          apply rel_val (hrf := Tk_refl)
          case hw => rfl
          case hy => intro wS hN hF; skip; first | (go_simp; done) | (go_simp; with_reducible rfl)
          case' hk => skip
          try simp only [Act.put, List.setIfInBounds_toArray, List.set_cons_zero, List.set_cons_succ]
          apply rel_val (hrf := Tk_refl)
          case hw => rfl
          case hy => intro wS hN hF; skip; first | (go_simp; done) | (go_simp; with_reducible rfl)
          case' hk => skip
          try simp only [Act.put, List.setIfInBounds_toArray, List.set_cons_zero, List.set_cons_succ]
          refine rel_end ?_
          intro wS hO hF
          have hT : v13 = .tuple #[.int .i64 0, .int .i64 3] := facts_at hF 0 rfl
          subst hT
          clear hF
          have hO2 := Lib.hid ((Only.refl [] _).drew.then hO.only)
          clear hO
          go_wp2_with (first
            | (go_at_call 13; with_reducible refine (known_any (HL.out.only (hO2.out.then hO3))).mono ?_; rintro e w4 ⟨rfl, hO4⟩)
            | (go_at_call 7; with_reducible refine (HP0.out _ (HL.out.only hO2.out)).mono ?_; rintro e w3 ⟨rfl, hO3⟩))
          go_ret
          exact ⟨rfl, (hO2.out.then hO3).then hO4⟩
    · go_enter Tryd.func6, Tryd.ntmps6
      go_wp2
      go_loopw [7] (fun iv wr => wr = w ∧ ∃ (i : Nat), iv = .int .i64 (i : Int) ∧ i ≤ n) (fun iv _ => n - (intOf iv).toNat)
      case atStart => exact ⟨rfl, 0, rfl, by omega⟩
      case round =>
        obtain ⟨rfl, i, rfl, hi2⟩ := hrel
        by_cases hlt : i < n
        · have hlt' : (i : Int) < (n : Int) := by omega
          have hil : i < ls.length := by rw [HLN.out]; exact hlt
          obtain ⟨ad, rfl, hc0⟩ := strs_at HS.out hlt hil
          obtain ⟨s, hs⟩ : ∃ s, ls[i] = s := ⟨_, rfl⟩
          rw [hs] at hc0
          have hki : (i : Int) + 1 ≤ 140737488355328 := by omega
          have HM : Hid (n - (intOf (.int .i64 ((i : Int) + 1))).toNat < n - (intOf (.int .i64 (i : Int))).toNat) := by
            show _ < _
            simp [intOf]
            omega
          have HI := Lib.hid hlt
          clear hs hil hlt hi2
          by_cases h40 : (40 : Int) < (s.size : Int)
          · go_wp2
            go_ret
            exact ⟨rfl, Only.refl _ _⟩
          · go_wp2
            exact ⟨⟨trivial, i + 1, by simp, HI.out⟩, HM.out⟩
        · obtain rfl : i = n := by omega
          clear hlt hi2
          obtain ⟨k, hk⟩ : ∃ k : Nat, k = (at0 % 65536).toNat % (i + 1) := ⟨_, rfl⟩
          have hkn : k ≤ i := by have := Nat.mod_lt (at0 % 65536).toNat (show 0 < i + 1 by omega); omega
          obtain ⟨a, ha⟩ : ∃ a : Int, bits .and .i64 at0 65535 = a := ⟨_, rfl⟩
          have hmod : a.tmod ((i : Int) + 1) = (k : Int) := by
            rw [← ha, low16, hk]
            have h0 : 0 ≤ at0 % 65536 := by omega
            rw [Int.tmod_eq_emod_of_nonneg h0, Int.natCast_emod, Int.toNat_of_nonneg h0]
            rfl
          have hne : ¬ ((i : Int) + 1 = 0) := by omega
          have hwr : IntKind.i64.wrap ((i : Int) + 1) = (i : Int) + 1 := IntWalk.i64_in _ (by omega)
          have hwk : IntKind.i64.wrap (k : Int) = (k : Int) := IntWalk.i64_in _ (by omega)
          obtain ⟨A2, c2, hcut, hA2⟩ := cut_texts hkn HNC.out HNIL.out
          have HCU := Lib.hid hcut
          have HPR := Lib.hid (pre_texts (A := A) hkn HNC.out)
          have HSP : Hid (Sl wr A k (strs (ls.take k))) := by
            have := HS.out.pre hkn
            have e : (strs ls).take k = strs (ls.take k) := by simp [strs, List.map_take]
            rwa [e] at this
          have HSC0 : Sl wr A2 (i - k) (strs (ls.drop k)) := by
            have := HS.out.cut hkn HNC.out
            have e : (strs ls).drop k = strs (ls.drop k) := by simp [strs, List.map_drop]
            rw [e, ← hA2] at this
            exact this
          obtain ⟨m, hm⟩ : ∃ m, i - k = m := ⟨_, rfl⟩
          rw [hm] at HSC0 HCU
          have HSC : Hid (∀ W, Only [] wr.drew W → Sl W A2 m (strs (ls.drop k))) := fun W hW => HSC0.keep ((Only.refl [] _).drew.then hW)
          obtain ⟨q, hq⟩ : ∃ q, q = k + 1 + m := ⟨_, rfl⟩
          have HQ : Hid (q = k + 1 + m ∧ q ≤ 21) := ⟨hq, by omega⟩
          have HK : Hid (k ≤ 20) := by show _ ≤ _; omega
          have HPA : Hid (∀ W (A3 : Option Addr) (c3 : Nat), Own W 9 A3 q c3 (strs (ls.take k) ++ [Value.string b] ++ strs (ls.drop k)) → Only [] wr.drew W → Calls Tryd.prog 7 #[.slice A3 q c3] W fun e w' => e = .returned (.tuple #[.int .i64 0, .int .i64 3]) ∧ Only [] W w') := fun W A3 c3 hV hO => by
            have hS := hV.sl
            have e : strs (ls.take k) ++ [Value.string b] ++ strs (ls.drop k) = strs (ls.take k ++ [b] ++ ls.drop k) := by simp [strs]
            rw [e] at hS
            have h := Parse_any (c := c3) hS (by have := HQ.out.2; omega) (HL.out.only ((Only.refl [] _).drew.then hO))
            have hp := parseL_none (datas (ls.take k ++ [b] ++ ls.drop k)) 0 b.data.toList (by simp [datas]) HBAD.out
            have hF : parseF (datas (ls.take k ++ [b] ++ ls.drop k)) = 0 := by unfold parseF; rw [hp]; rfl
            have hE : parseE (datas (ls.take k ++ [b] ++ ls.drop k)) = 3 := by unfold parseE; rw [hp]; rfl
            rw [hF, hE] at h
            exact h
          have HP0 : Hid (∀ W, Laid W → Calls Tryd.prog 7 #[.slice none 0 0] W fun e w' => e = .returned (.tuple #[.int .i64 0, .int .i64 0]) ∧ Only [] W w') := fun W hW => Parse_any (w := W) (A := none) (n := 0) (c := 0) (ls := []) Sl.none_ (by omega) hW
          have HW := Lib.hid hwk
          clear hk hkn hcut hA2 HSC0 hm hq hn20' hwk
          go_wp2_with fail
          apply region_writes (rs := []) (Ws := [7, 11]) (by kernel_rfl) (by kernel_rfl)
          apply rel_fact (φ := fun v W => ∃ g, v = .slice (some ⟨g, 0, none⟩) 0 0 ∧ Own W 9 (some ⟨g, 0, none⟩) 0 0 [] ∧ wr.heap.size ≤ g) (x := 4) (hs := lasts0 (by kernel_rfl) (fun v W W' h ho => by obtain ⟨g, h1, h2, h3⟩ := h; exact ⟨g, h1, h2.keep ho, h3⟩))
          case hw => rfl
          case hy =>
            intro wS hN hF
            have hO := (hN.pre (by kernel_rfl)).size
            refine gives_value (u := .slice (some ⟨wS.heap.size, 0, none⟩) 0 0) (w' := wS.alloc (.cells #[] 9)) ?_ ⟨_, rfl, own_empty _ _, hO⟩ (Tk_only ((Only.refl [] _).alloc _))
            go_simp
          case' hk => intro v0
          try simp only [Act.put, List.setIfInBounds_toArray, List.set_cons_zero, List.set_cons_succ]
          apply rel_val (hrf := Tk_refl)
          case hw => rfl
          case hy => intro wS hN hF; skip; first | (go_simp; done) | (go_simp; with_reducible rfl)
          case' hk => skip
          try simp only [Act.put, List.setIfInBounds_toArray, List.set_cons_zero, List.set_cons_succ]
          apply rel_val (hrf := Tk_refl)
          case hw => rfl
          case hy => intro wS hN hF; skip; first | (go_simp; done) | (go_simp; with_reducible rfl)
          case' hk => skip
          try simp only [Act.put, List.setIfInBounds_toArray, List.set_cons_zero, List.set_cons_succ]
          apply rel_val (v := .slice A k c) (hrf := Tk_refl)
          case hw => rfl
          case hy =>
            intro wS hN hF
            have hp := HPR.out wS
            go_simp
          case' hk => skip
          try simp only [Act.put, List.setIfInBounds_toArray, List.set_cons_zero, List.set_cons_succ]
          apply rel_fact (φ := fun v W => ∃ A' c', v = .slice A' k c' ∧ Own W 9 A' k c' (strs (ls.take k)) ∧ ∀ x ∈ blks A', wr.heap.size ≤ x) (x := 7) (hs := lasts0 (by kernel_rfl) (fun v W W' h ho => by obtain ⟨A', c', h1, h2, h3⟩ := h; exact ⟨A', c', h1, h2.keep ho, h3⟩))
          case hw => rfl
          case hy =>
            intro wS hN hF
            obtain ⟨g, hv0, HV0, hg⟩ := hF.at_ 0 rfl (by kernel_rfl) (by kernel_rfl)
            subst hv0
            have hO := hN.pre (by kernel_rfl)
            exact gives_append_zero (.tmp 48) (.tmp 51) 22 rfl 9 i0 (.string ⟨#[]⟩) 16 Tryd.underlying22 hi hz0 hz1 hz2 rfl g rfl HV0 A k c (strs (ls.take k)) rfl (HSP.out.keep ((Only.refl [] _).drew.then hO)) (fun u hu => by obtain ⟨b, _, rfl⟩ := List.mem_map.1 hu; rfl) (by unfold maxLen; have := HK.out; omega) (by have := HK.out; omega)
              fun A3 c3 w3 HV3 HO3 HB3 => ⟨⟨A3, c3, rfl, HV3, fun x hx => by rcases HB3 x hx with h | h; omega; have := hO.size; simp at this; omega⟩, Tk_only HO3⟩
          case' hk => intro v4
          try simp only [Act.put, List.setIfInBounds_toArray, List.set_cons_zero, List.set_cons_succ]
          apply rel_val (hrf := Tk_refl)
          case hw => rfl
          case hy => intro wS hN hF; skip; first | (go_simp; done) | (go_simp; with_reducible rfl)
          case' hk => skip
          try simp only [Act.put, List.setIfInBounds_toArray, List.set_cons_zero, List.set_cons_succ]
          apply rel_fact (φ := fun v W => ∃ g, v = .slice (some ⟨g, 0, none⟩) 1 1 ∧ Sl W (some ⟨g, 0, none⟩) 1 [.string b]) (x := 7) (hs := lasts0 (by kernel_rfl) (fun v W W' h ho => by obtain ⟨g, h1, h2⟩ := h; exact ⟨g, h1, h2.keep ho⟩))
          case hw => rfl
          case hy =>
            intro wS hN hF
            refine gives_value (u := .slice (some ⟨wS.heap.size, 0, none⟩) 1 1) (w' := wS.alloc (.cells #[.string b] 9)) ?_ ⟨_, rfl, Sl.of_new _ _ _ _⟩ (Tk_only ((Only.refl [] _).alloc _))
            go_simp
          case' hk => intro v6
          try simp only [Act.put, List.setIfInBounds_toArray, List.set_cons_zero, List.set_cons_succ]
          apply rel_fact (φ := fun v W => ∃ A' c', v = .slice A' (k + 1) c' ∧ Own W 9 A' (k + 1) c' (strs (ls.take k) ++ [Value.string b]) ∧ ∀ x ∈ blks A', wr.heap.size ≤ x) (x := 11) (hs := lasts0 (by kernel_rfl) (fun v W W' h ho => by obtain ⟨A', c', h1, h2, h3⟩ := h; exact ⟨A', c', h1, h2.keep ho, h3⟩))
          case hw => rfl
          case hy =>
            intro wS hN hF
            obtain ⟨g, hv6, HS6⟩ := hF.at_ 0 rfl (by kernel_rfl) (by kernel_rfl)
            obtain ⟨A3, c3, hv4, HV3, HB3⟩ := hF.at_ 1 rfl (by kernel_rfl) (by kernel_rfl)
            subst hv6 hv4
            exact gives_append_sl (.tmp 52) (.tmp 54) 22 rfl 9 i0 (.string ⟨#[]⟩) 16 Tryd.underlying22 hi hz0 hz1 hz2 rfl A3 k c3 _ rfl HV3 (some ⟨g, 0, none⟩) 1 1 [.string b] rfl HS6 (fun u hu => by simp at hu; subst hu; rfl) (by unfold maxLen; have := HK.out; omega) (by have := HK.out; omega)
              fun A4 c4 w4 HV4 HO4 HB4 => ⟨⟨A4, c4, rfl, HV4, fun x hx => by rcases HB4 x hx with h | h; exact HB3 x h; have := hN.1.size; simp at this; omega⟩, Tk_writes rfl HO4 (fun x hx => .inr (HB3 x hx))⟩
          case' hk => intro v7
          try simp only [Act.put, List.setIfInBounds_toArray, List.set_cons_zero, List.set_cons_succ]
          apply rel_val (hrf := Tk_refl)
          case hw => rfl
          case hy => intro wS hN hF; skip; first | (go_simp; done) | (go_simp; with_reducible rfl)
          case' hk => skip
          try simp only [Act.put, List.setIfInBounds_toArray, List.set_cons_zero, List.set_cons_succ]
          apply rel_val (hrf := Tk_refl)
          case hw => rfl
          case hy => intro wS hN hF; skip; first | (go_simp; done) | (go_simp; with_reducible rfl)
          case' hk => skip
          try simp only [Act.put, List.setIfInBounds_toArray, List.set_cons_zero, List.set_cons_succ]
          apply rel_val (v := .slice A2 m c2) (hrf := Tk_refl)
          case hw => rfl
          case hy =>
            intro wS hN hF
            have hp := HCU.out wS
            go_simp
          case' hk => skip
          try simp only [Act.put, List.setIfInBounds_toArray, List.set_cons_zero, List.set_cons_succ]
          apply rel_fact (φ := fun v W => ∃ A' c', v = .slice A' q c' ∧ Own W 9 A' q c' (strs (ls.take k) ++ [Value.string b] ++ strs (ls.drop k)) ∧ ∀ x ∈ blks A', wr.heap.size ≤ x) (x := 12) (hs := lasts0 (by kernel_rfl) (fun v W W' h ho => by obtain ⟨A', c', h1, h2, h3⟩ := h; exact ⟨A', c', h1, h2.keep ho, h3⟩))
          case hw => rfl
          case hy =>
            intro wS hN hF
            obtain ⟨A3, c3, hv7, HV3, HB3⟩ := hF.at_ 0 rfl (by kernel_rfl) (by kernel_rfl)
            subst hv7
            have HS2 : Sl wS A2 m (strs (ls.drop k)) := HSC.out _ hN.1.only
            exact gives_append_as (.tmp 55) (.tmp 58) 22 rfl 9 i0 (.string ⟨#[]⟩) 16 Tryd.underlying22 hi hz0 hz1 hz2 rfl A3 (k + 1) c3 _ rfl HV3 A2 m c2 _ rfl HS2 (fun u hu => by obtain ⟨b, _, rfl⟩ := List.mem_map.1 hu; rfl) (by unfold maxLen; have := HQ.out; omega) (by have := HQ.out; omega) q (by have := HQ.out; omega)
              fun A4 c4 w4 HV4 HO4 HB4 => ⟨⟨A4, c4, rfl, HV4, fun x hx => by rcases HB4 x hx with h | h; exact HB3 x h; have := hN.1.size; simp at this; omega⟩, Tk_writes rfl HO4 (fun x hx => .inr (HB3 x hx))⟩
          case' hk => intro v11
          try simp only [Act.put, List.setIfInBounds_toArray, List.set_cons_zero, List.set_cons_succ]
          apply rel_fact_call (φ := fun v W => v = .tuple #[.int .i64 0, .int .i64 3]) (x := 9999) (hs := lasts (fun v W W' h _ => h))
          case hw => rfl
          case hc =>
            intro wS hN hF
            obtain ⟨A3, c3, hv11, HV3, HB3⟩ := hF.at_ 0 rfl (by kernel_rfl) (by kernel_rfl)
            subst hv11
            refine ⟨7, #[.slice A3 q c3], by go_simp, (HPA.out wS A3 c3 HV3 hN.1.only).mono ?_⟩
            rintro e w3 ⟨rfl, HO3⟩
            exact ⟨_, rfl, rfl, Tk_only HO3⟩
          case' hk => intro v12
          try simp only [Act.put, List.setIfInBounds_toArray, List.set_cons_zero, List.set_cons_succ]
          apply rel_fact (φ := fun v W => v = .tuple #[.int .i64 0, .int .i64 3]) (x := 9999) (hs := lasts (fun v W W' h _ => h))
          case hw => rfl
          case hy =>
            intro wS hN hF
            have h := hF.at_ 0 rfl (by kernel_rfl) (by kernel_rfl)
            refine gives_value (u := v12) (w' := wS) ?_ h (Tk_refl _)
            go_simp
          case' hk => intro v13
          try simp only [Act.put, List.setIfInBounds_toArray, List.set_cons_zero, List.set_cons_succ]
          apply rel_val (v := .int .i64 0) (hrf := Tk_refl)
          case hw => rfl
          case hy =>
            intro wS hN hF
            have h := hF.at_ 0 rfl (by kernel_rfl) (by kernel_rfl)
            subst h
            go_simp
          case' hk => skip
          try simp only [Act.put, List.setIfInBounds_toArray, List.set_cons_zero, List.set_cons_succ]
          apply rel_val (v := .int .i64 3) (hrf := Tk_refl)
          case hw => rfl
          case hy =>
            intro wS hN hF
            have h := hF.at_ 0 rfl (by kernel_rfl) (by kernel_rfl)
            subst h
            go_simp
          case' hk => skip
          try simp only [Act.put, List.setIfInBounds_toArray, List.set_cons_zero, List.set_cons_succ]
          apply rel_val (hrf := Tk_refl)
          case hw => rfl
          case hy => intro wS hN hF; skip; first | (go_simp; done) | (go_simp; with_reducible rfl)
          case' hk => skip
          try simp only [Act.put, List.setIfInBounds_toArray, List.set_cons_zero, List.set_cons_succ]
          apply rel_val (hrf := Tk_refl)
          case hw => rfl
          case hy => intro wS hN hF; skip; first | (go_simp; done) | (go_simp; with_reducible rfl)
          case' hk => skip
          try simp only [Act.put, List.setIfInBounds_toArray, List.set_cons_zero, List.set_cons_succ]
          refine rel_end ?_
          intro wS hO hF
          have hT : v13 = .tuple #[.int .i64 0, .int .i64 3] := facts_at hF 0 rfl
          subst hT
          clear hF
          have hO2 := Lib.hid ((Only.refl [] _).drew.then hO.only)
          clear hO
          go_wp2_with (first
            | (go_at_call 13; with_reducible refine (known_any (HL.out.only (hO2.out.then hO3))).mono ?_; rintro e w4 ⟨rfl, hO4⟩)
            | (go_at_call 7; with_reducible refine (HP0.out _ (HL.out.only hO2.out)).mono ?_; rintro e w3 ⟨rfl, hO3⟩))
          go_ret
          exact ⟨rfl, (hO2.out.then hO3).then hO4⟩
  by_cases h0 : 0 < b.size
  · obtain ⟨y, hy⟩ : ∃ y, (b[0]'h0).toNat = y := ⟨_, rfl⟩
    have hix := fun W => run_ix0 b h0 y hy W
    by_cases h92 : y = 92
    · subst h92
      have h3 : (0 : Int) < (b.size : Int) := by omega
      clear main hy h0
      go_enter Tryd.func6, Tryd.ntmps6
      go_wp2
      go_ret
      exact ⟨rfl, Only.refl _ _⟩
    · refine main (fun x hx => ?_) (fun _ => ⟨y, by simp; omega, hix⟩)
      have h := Lib.data_getElem? b 0 h0
      rw [List.head?_eq_getElem?, h] at hx
      simp at hx
      subst hx
      rw [hy]
      exact h92
  · refine main (fun x hx => ?_) (fun h => absurd h h0)
    have : b.data.toList = [] := List.eq_nil_of_length_eq_zero (by rw [← Lib.size_eq]; omega)
    rw [this] at hx
    cases hx
end Go.Proofs.YtamekbpmbmggoaaDoor
