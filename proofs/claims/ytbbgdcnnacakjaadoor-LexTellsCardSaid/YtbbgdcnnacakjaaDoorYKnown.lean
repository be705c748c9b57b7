/-
  The laws' known(): six tokens, and a line that wants twelve.
-/
import Derived.Test.YtbbgdcnnacakjaaDoorYLex
namespace Go.Proofs.YtbbgdcnnacakjaaDoor
open Go.RowKit Go.Instr

/-- A row of bytes laid by a literal, with its mark. -/
theorem bt_lit (w : World) (C : Array Value) (l : List UInt8) (n : Nat) (fr : Nat × Nat) (hC : C.toList = bvs l) (hn : l.length = n) (hm : n ≤ 9223372036854775807) : Bt (w.alloc (.cells C 5 fr)) (some ⟨w.heap.size, 0, none⟩) n n l := by
  have h := Sl.of_new w C 5 fr
  rw [hC, show C.size = n by rw [← Array.length_toList, hC, bvs_length, hn]] at h
  exact ⟨h, Nat.le_refl _, hm, fun e => nomatch e⟩
def knB : List UInt8 := [97, 32, 102, 101, 116, 99, 104, 32, 49, 32, 40, 102, 108, 97, 103, 115, 41]
def knW : List UInt8 := [97, 32, 123, 49, 50, 125]
def knT : List Tkn := [(1, [97]), (1, [102, 101, 116, 99, 104]), (1, [49]), (3, []), (1, [102, 108, 97, 103, 115]), (4, [])]
theorem kn_lex : lexL [knB] [] = .ok knT := by kernel_rfl
theorem kn_want : wantL knW = some 12 := by kernel_rfl
/-- What Lex of one line answers. -/
theorem one_line {w : World} {g : Nat} {t : TypeId} {A : Option Addr} {n c : Nat} {l : List UInt8} (hg : Bk w g t #[.slice A n c]) (h : Bt w A n c l) (hn : n ≤ 1000000) :
    Calls Tryd.prog 10 #[.slice (some ⟨g, 0, none⟩) 1 1, .slice none 0 0] w (LexR w (lexL [l] [])) := by
  have hl := h.len
  subst hl
  exact Lex_any (Rb.one hg h) Rb.none_ (by omega) (by omega) (fun l' h' => by rw [List.mem_singleton.1 h']; omega)
set_option maxRecDepth 100000 in
set_option maxHeartbeats 4000000 in
theorem known_any (w : World) : Calls Tryd.prog 17 #[] w fun e w' => e = .returned (.bool true) ∧ Only [] w w' := by
  have kc := fun (w : World) (C : Array Value) (n c : Nat) => Lib.run_convert_bytes_const (P := Tryd.prog) w 32 5 C n c Tryd.underlying32 Tryd.underlying5
  have HB := Lib.hid (bt_lit w #[.int .u8 97, .int .u8 32, .int .u8 102, .int .u8 101, .int .u8 116, .int .u8 99, .int .u8 104, .int .u8 32, .int .u8 49, .int .u8 32, .int .u8 40, .int .u8 102, .int .u8 108, .int .u8 97, .int .u8 103, .int .u8 115, .int .u8 41] knB 17 (17, 18) rfl rfl (by decide))
  obtain ⟨w1, hw1⟩ : ∃ w1, w.alloc (.cells #[.int .u8 97, .int .u8 32, .int .u8 102, .int .u8 101, .int .u8 116, .int .u8 99, .int .u8 104, .int .u8 32, .int .u8 49, .int .u8 32, .int .u8 40, .int .u8 102, .int .u8 108, .int .u8 97, .int .u8 103, .int .u8 115, .int .u8 41] 5 (17, 18)) = w1 := ⟨_, rfl⟩
  have hO1 : Only [] w w1 := by rw [← hw1]; exact (Only.refl _ _).alloc _
  rw [hw1] at HB
  have hz1 : w1.heap.size = w.heap.size + 1 := by rw [← hw1]; simp
  have HW : Hid (∀ W, Calls Tryd.prog 12 #[.slice (some ⟨World.heap W |>.size, 0, none⟩) 6 6] (W.alloc (.cells #[.int .u8 97, .int .u8 32, .int .u8 123, .int .u8 49, .int .u8 50, .int .u8 125] 5 (6, 7))) fun e w' => e = .returned (.tuple #[.int .i64 12, .bool true]) ∧ Only [] (W.alloc (.cells #[.int .u8 97, .int .u8 32, .int .u8 123, .int .u8 49, .int .u8 50, .int .u8 125] 5 (6, 7))) w') := fun W => by
    have h := Wants_any (bt_lit W #[.int .u8 97, .int .u8 32, .int .u8 123, .int .u8 49, .int .u8 50, .int .u8 125] knW 6 (6, 7) rfl rfl (by decide)) (by decide)
    rw [kn_want] at h
    exact h
  have HL : Hid (Calls Tryd.prog 10 #[.slice (some ⟨w.heap.size + 1, 0, none⟩) 1 1, .slice none 0 0] (w1.alloc (.cells #[.slice (some ⟨w.heap.size, 0, none⟩) 17 17] 32)) fun e w' => ∃ g c, e = .returned (.tuple #[.slice (some ⟨g, 0, none⟩) 6 c, .int .i64 0]) ∧ Only [] w w' ∧ w'.cell? ⟨g, 6, none⟩ = some (.int .i64 3)) := by
    have h := one_line (w := w1.alloc (.cells #[.slice (some ⟨w.heap.size, 0, none⟩) 17 17] 32)) (g := w1.heap.size) (Bk.new _ _ _) (HB.out.keep ((Only.refl _ _).alloc _)) (by omega)
    rw [kn_lex, hz1] at h
    refine h.mono fun e w' hr => ?_
    obtain ⟨hO, A, c, he, hg, hA⟩ := hr
    obtain ⟨g, rfl⟩ := hg.form (by decide)
    refine ⟨g, c, he, (hO1.alloc _).then hO, ?_⟩
    obtain ⟨ad, e1, hc⟩ := hg.reads.2 (by decide)
    injection e1 with e1
    subst e1
    have := hc 6 (.int .i64 3) rfl
    rwa [add_none] at this
  go_enter Tryd.func17, Tryd.ntmps17
  go_wp2_with first
    | (go_at_call 10; (try rw [hw1]); refine HL.out.mono ?_; rintro e w2 ⟨g, c, rfl, O2, hc⟩; have hw2 := block_lt_of_cell hc; have hc3 := fun (W : World) (o : Only [] w2 W) => o.cellSome hc (fun hm => nomatch hm))
    | (go_at_call 12; refine (HW.out _).mono ?_; rintro e w3 ⟨rfl, O3⟩; have hc3' := hc3 _ (((Only.refl _ _).alloc _).then O3))
  go_ret
  exact ⟨rfl, (O2.alloc _).then O3⟩
end Go.Proofs.YtbbgdcnnacakjaaDoor
