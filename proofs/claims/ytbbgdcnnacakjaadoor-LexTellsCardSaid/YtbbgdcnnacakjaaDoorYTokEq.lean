/-
  Are two tokens one?
-/
import Derived.Test.YtbbgdcnnacakjaaDoorYKnown
import Derived.Laws.StructEq
namespace Go.Proofs.YtbbgdcnnacakjaaDoor
open Go.RowKit Go.Instr

theorem tkStruct : Tryd.prog.underlying 40 = some (.struct (Tryd.prog.fieldsOf 40)) := by kernel_rfl
theorem tkStood : Tryd.prog.stoodInHeld 40 = false := by kernel_rfl
theorem tkGuard : Tryd.prog.eqGuardType Tryd.prog.depth 40 = false := by kernel_rfl
theorem tkFields : ((Tryd.prog.fieldsOf 40).toList.map fun f => (f.type, f.offset, f.name == "_")) = [(3, 0, false), (9, 1, false)] := by kernel_rfl
theorem tkCellI : (Tryd.prog.info? 3).map (·.size) = some 1 := by kernel_rfl
theorem tkCellS : (Tryd.prog.info? 9).map (·.size) = some 1 := by kernel_rfl
theorem tk_two : ∃ f0 f1, (Tryd.prog.fieldsOf 40).toList = [f0, f1] ∧ f0.type = 3 ∧ f0.offset = 0 ∧ (f0.name == "_") = false ∧ f1.type = 9 ∧ f1.offset = 1 ∧ (f1.name == "_") = false := by
  have h := tkFields
  generalize (Tryd.prog.fieldsOf 40).toList = l at h
  have hl : l.length = 2 := by simpa using congrArg List.length h
  match l, hl with
  | [f0, f1], _ =>
    simp only [List.map_cons, List.map_nil, List.cons.injEq, Prod.mk.injEq, and_true] at h
    exact ⟨f0, f1, rfl, h.1.1, h.1.2.1, h.1.2.2, h.2.1, h.2.2.1, h.2.2.2⟩
theorem eq_tk_in (dp : Nat) (a c : Int) (b d : ByteArray) (w : World) (h9 : ∀ x y : Int, (Op.equalIn dp 3 (.int .i64 x) (.int .i64 y)).run Tryd.prog w = .ok (x == y) w) (h8 : ∀ x y : ByteArray, (Op.equalIn dp 9 (.string x) (.string y)).run Tryd.prog w = .ok (x.toList == y.toList) w) :
    (Op.equalIn (dp + 1) 40 (.agg #[.int .i64 a, .string b]) (.agg #[.int .i64 c, .string d])).run Tryd.prog w = .ok (a == c && b.toList == d.toList) w := by
  obtain ⟨i, hi, hs⟩ := Option.map_eq_some_iff.1 tkCellI
  obtain ⟨j, hj, hs2⟩ := Option.map_eq_some_iff.1 tkCellS
  obtain ⟨f0, f1, hf, t0, o0, n0, t1, o1, n1⟩ := tk_two
  rw [run_equalIn_agg _ _ _ _ _ tkStruct tkStood, hf]
  have n0' : f0.name ≠ "_" := by simpa using n0
  have n1' : f1.name ≠ "_" := by simpa using n1
  cases h1 : a == c <;> cases h2 : b.toList == d.toList <;> simp [Op.eqFields, n0', n1', t0, t1, o0, o1, go_sem, sizeOf, typeInfo, hi, hs, hj, hs2, h9, h8, h1, h2]
theorem run_neq_tk (a c : Int) (b d : ByteArray) (w : World) : (binOp .neq 40 (.agg #[.int .i64 a, .string b]) (.agg #[.int .i64 c, .string d])).run Tryd.prog w = .ok (.bool (!(a == c && b.toList == d.toList))) w := by
  rw [run_neq_struct, eq_tk_in 9999 a c b d w (fun x y => run_equalIn_int (P := Tryd.prog) (w := w) 9998 3 .i64 .i64 x y Tryd.underlying3) (fun x y => run_equalIn_string (P := Tryd.prog) (w := w) 9998 9 x y Tryd.underlying9)]
  rfl
theorem guard_tk (op : BinOp) (x y : Operand) (xs ys : Array Value) (w : World) : (eqGuard op 40 x y (.agg xs) (.agg ys)).run Tryd.prog w = .ok () w := run_eqGuard_agg w op _ x y xs ys tkGuard
end Go.Proofs.YtbbgdcnnacakjaaDoor
