/-
  Texts: bytes as a text, a text's bytes behind a row of the call's own. Plain theorems: nothing of the program stands here.
-/
import Derived.Test.YtbbgdcnnacakjaaDoorRelOps
import Derived.Test.YtbbgdcnnacakjaaDoorOwnMore
import Derived.Laws.IdiomStrings
import Derived.Lib.AppendStr
import Derived.Lib.Strings
namespace Go.Proofs.YtbbgdcnnacakjaaDoor
open Go.RowKit Go.Instr

/-- A text of these bytes. -/
abbrev St (l : List UInt8) : ByteArray := ⟨l.toArray⟩
theorem St_size (l : List UInt8) : (St l).size = l.length := by simp [ByteArray.size]
theorem St_list (l : List UInt8) : (St l).data.toList = l := by simp
theorem St_data (s : ByteArray) : St s.data.toList = s := Lib.mk_data s
theorem St_eq (l m : List UInt8) : ((St l).toList == (St m).toList) = (l == m) := by rw [Lib.toList_data, Lib.toList_data, St_list, St_list]

section
variable {P : Program} {w : World}
/-- 'string(b)'. -/
theorem run_str_sl (src dst e : TypeId) (A : Option Addr) (n c : Nat) (l : List UInt8) (hs : P.underlying src = some (.slice e)) (he : P.underlying e = some (.int .u8)) (hd : P.underlying dst = some .string) (h : Sl w A n (bvs l)) :
    (convert src dst (.slice A n c)).run P w = .ok (.string (St l)) w := by
  have hl : l.length = n := by simpa using h.len
  cases A with
  | none =>
    have h0 : n = 0 := by
      rcases Nat.eq_zero_or_pos n with h0 | h0
      · exact h0
      · obtain ⟨ad, e, _⟩ := h.2 h0
        cases e
    subst h0
    obtain rfl : l = [] := List.eq_nil_of_length_eq_zero hl
    rw [run_convert_bytes_string w src dst e none 0 c hs he hd]
    rfl
  | some ad =>
    subst hl
    refine run_convert_bytes_back w src dst e ad c l hs he hd fun j hj => ?_
    obtain ⟨ad', hA, hc⟩ := h.2 (by omega)
    injection hA with hA
    subst hA
    exact hc j _ (bvs_get l j hj)

/-- 's[i:j]' of a text. -/
theorem run_cut_str (t : TypeId) (hu : P.underlying t = some .string) (s : ByteArray) (i j : Nat) (I J : Int) (hI : I = (i : Int)) (hJ : J = (j : Int)) (hij : i ≤ j) (hj : j ≤ s.size) (W : World) :
    (Instr.slice t (.string s) (some (.int .i64 I)) (some (.int .i64 J)) none).run P W = .ok (.string (s.extract i j)) W := by
  subst hI hJ
  have h := run_slice_string (P := P) (w := W) t s .i64 .i64 (i : Int) (j : Int) hu (by omega) (by omega) (by omega)
  simpa using h
theorem run_append_str (t u ty e : TypeId) (i : TypeInfo) (ht : P.underlying t = some (.slice e)) (hu : P.underlying u = some .string) (hi : P.info? e = some i) (hz : i.zero = some (.int .u8 0)) (hsize : i.size = 1) (hby : i.bytes = 1)
    (A : Option Addr) (n c : Nat) (xs : List Value) (hown : Own w e A n c xs) (s : ByteArray) (h63 : n + s.size ≤ 140737488355328) :
    ∃ A' c' w', (Builtin.append_ #[t, u] ty #[.slice A n c, .string s]).run P w = .ok (.slice A' (n + s.size) c') w' ∧ Own w' e A' (n + s.size) c' (xs ++ bvs s.data.toList) ∧ Only (blks A) w w' := by
  obtain ⟨v', w', hr, h2, h3, _⟩ := Lib.run_append_own_string (P := P) w 0 t u ty e i ht hu hi hz hsize hby (.slice A n c) n xs hown s (by unfold maxLen; omega) (by omega) (Nat.zero_le _)
  have hform : ∃ A' c', v' = .slice A' (n + s.size) c' := by
    rcases h2.2 with ⟨rfl, h0⟩ | ⟨g, cap, cur, rfl, _⟩
    · exact ⟨none, 0, by rw [h0]⟩
    · exact ⟨_, _, rfl⟩
  obtain ⟨A', c', rfl⟩ := hform
  refine ⟨A', c', w', hr, h2, ?_⟩
  have := Only.of_grown h3
  cases A with
  | none => simpa [Value.ownBlock] using this
  | some a => simpa [Value.ownBlock] using this
theorem wpList_append_str {ops : Array Oper} {rest : List Oper} {o : Oper} {a : Act} {Q : Exit → Act → World → Prop} (hgd : o.guard = none) (s x : Operand) (t u : TypeId)
    (ho : o.op = .call { callee := .builtin .append, args := #[s, x], argTypes := #[t, u] }) (e : TypeId) (i : TypeInfo) (ht : P.underlying t = some (.slice e)) (hu : P.underlying u = some .string) (hi : P.info? e = some i) (hz : i.zero = some (.int .u8 0)) (hsize : i.size = 1) (hby : i.bytes = 1)
    (A : Option Addr) (n c : Nat) (xs : List Value) (hs : a.eval s = .slice A n c) (hown : Own w e A n c xs) (tx : ByteArray) (hx : a.eval x = .string tx) (h63 : n + tx.size ≤ 140737488355328)
    (h : ∀ A' c' w', Own w' e A' (n + tx.size) c' (xs ++ bvs tx.data.toList) → Only (blks A) w w' → wpList P ops Q rest (a.put o.dst (.slice A' (n + tx.size) c')) w') : wpList P ops Q (o :: rest) a w := by
  refine wpList_plain hgd fun K hK => ?_
  obtain ⟨A', c', w', hr, h2, h3⟩ := run_append_str (P := P) t u o.type e i ht hu hi hz hsize hby A n c xs hown tx h63
  unfold Oper.wp execOp
  simp only [ho, resolve, invoke, builtin, Sem.run_bind, Sem.run_pure, Result.andThen_ok, List.map_toArray, List.map_cons, List.map_nil, hs, hx, hr]
  exact hK _ _ (h A' c' w' h2 h3)
theorem gives_append_str {T : World → World → Prop} {φ : Value → World → Prop} {o : Oper} {a : Act} (s x : Operand) (t u : TypeId)
    (ho : o.op = .call { callee := .builtin .append, args := #[s, x], argTypes := #[t, u] }) (e : TypeId) (i : TypeInfo) (ht : P.underlying t = some (.slice e)) (hu : P.underlying u = some .string) (hi : P.info? e = some i) (hz : i.zero = some (.int .u8 0)) (hsize : i.size = 1) (hby : i.bytes = 1)
    (A : Option Addr) (n c : Nat) (xs : List Value) (hs : a.eval s = .slice A n c) (hown : Own w e A n c xs) (tx : ByteArray) (hx : a.eval x = .string tx) (h63 : n + tx.size ≤ 140737488355328)
    (h : ∀ A' c' w', Own w' e A' (n + tx.size) c' (xs ++ bvs tx.data.toList) → Only (blks A) w w' → φ (.slice A' (n + tx.size) c') w' ∧ T w w') : GivesR P T w φ ((execOp a.eval o).run P w) := by
  obtain ⟨A', c', w', hr, h2, h3⟩ := run_append_str (P := P) t u o.type e i ht hu hi hz hsize hby A n c xs hown tx h63
  have e : (execOp a.eval o).run P w = .ok (.value (.slice A' (n + tx.size) c')) w' := by
    unfold execOp
    simp only [ho, resolve, invoke, builtin, Sem.run_bind, Sem.run_pure, Result.andThen_ok, List.map_toArray, List.map_cons, List.map_nil, hs, hx, hr]
  rw [e]
  exact h A' c' w' h2 h3
end
end Go.Proofs.YtbbgdcnnacakjaaDoor
