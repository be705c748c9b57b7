/-
  The laws' own sample (line): known is true.
-/
import Derived.Test.YtiekhgignmbaeaaLRefL
namespace Go.Proofs.Ytiekhgignmbaeaa
open Go.RowKit Go.Instr

/-! What was made since w0 may be written: nothing that was there has turned. -/
theorem own_step {w0 w w' : World} {rs : List Nat} (q : Only [] w0 w) (o : Only rs w w') (h : ∀ x ∈ rs, w0.heap.size ≤ x) : Only [] w0 w' := q.trans o (fun x hx => .inr (h x hx))
theorem fp_step {w0 w : World} {g : Nat} {F F' : List Nat} (q : Only [] w0 w) (h : ∀ x ∈ g :: F, w0.heap.size ≤ x) (s : ∀ k ∈ F', k ∈ F ∨ w.heap.size ≤ k) : ∀ x ∈ g :: F', w0.heap.size ≤ x := by
  intro x hx
  rcases List.mem_cons.1 hx with rfl | hx
  · exact h _ (by simp)
  · rcases s x hx with h1 | h1
    · exact h _ (by simp [h1])
    · have := q.size; omega
theorem fp_sub {w0 : World} {g : Nat} {F F' : List Nat} (h : ∀ x ∈ g :: F, w0.heap.size ≤ x) (s : ∀ k ∈ F', k ∈ F) : ∀ x ∈ g :: F', w0.heap.size ≤ x := by
  intro x hx
  rcases List.mem_cons.1 hx with rfl | hx
  · exact h _ (by simp)
  · exact h _ (by simp [s x hx])
theorem fp_new (w : World) : ∀ x ∈ w.heap.size :: ([] : List Nat), w.heap.size ≤ x := by simp

def K0 : LS := ⟨[], false, none⟩
def K1 : LS := ⟨[97, 13, 10, 98], false, none⟩
def K2 : LS := ⟨[98], false, none⟩
theorem k_feed : feedE K0 [97, 13, 10, 98] = 0 ∧ feedS K0 [97, 13, 10, 98] = K1 := ⟨by kernel_rfl, by kernel_rfl⟩
theorem k_one : nextR K1 = some ⟨1, [97]⟩ ∧ nextS K1 = K2 := ⟨by kernel_rfl, by kernel_rfl⟩
theorem k_two : nextR K2 = none ∧ nextS K2 = K2 := ⟨by kernel_rfl, by kernel_rfl⟩

theorem sl_lit (l : List UInt8) (w : World) (n : Nat) (fr : Nat × Nat) (cs : Array Value) (hn : l.length = n) (hc : cs.toList = bvs l) (hg : Nat) (hw : hg = w.heap.size) : Sl (w.alloc (.cells cs 5 fr)) (some ⟨hg, 0, none⟩) n (bvs l) := by
  subst hw hn
  have h := Sl.of_new w cs 5 fr
  rw [hc] at h
  have e : cs.size = l.length := by have := congrArg List.length hc; simpa using this
  rw [e] at h
  exact h

theorem feed_as {w : World} {g : Nat} {F : List Nat} {s s' : LS} {e : Nat} {x : List UInt8} (h : Ln false w g F s) (A2 : Option Addr) (m c2 : Nat) (hx : Sl w A2 m (bvs x)) (he : feedE s x = e) (hs : feedS s x = s') : Calls Try.prog 12 #[.pointer (some ⟨g, 0, none⟩), .slice A2 m c2] w (Turned false w g F s' (.int .i64 (e : Nat))) := by
  subst he hs
  exact Feed_any h A2 m c2 x hx
/-- Next, as it told a kind k and n bytes d. -/
def Ev1 (w : World) (g : Nat) (F : List Nat) (s' : LS) (k : Int) (n : Nat) (d : List UInt8) (b : Bool) (e : Ending) (w' : World) : Prop :=
  ∃ A c F', e = .returned (.tuple #[.agg #[.int .i64 k, .slice A n c], .bool b]) ∧ Sl w' A n (bvs d) ∧ (∀ k ∈ blks A, w.heap.size ≤ k ∧ k < w'.heap.size) ∧ Ln false w' g F' s' ∧ Only (g :: F) w w' ∧ ∀ k ∈ F', k ∈ F
theorem next_as {w : World} {g : Nat} {F : List Nat} {s s' : LS} {x : Option Ev} {k : Int} {n : Nat} {d : List UInt8} {b : Bool} (h : Ln false w g F s) (he : nextR s = x) (hs : nextS s = s') (hk : (evKind x : Int) = k) (hd : evData x = d) (hn : d.length = n) (hb : x.isSome = b) :
    Calls Try.prog 14 #[.pointer (some ⟨g, 0, none⟩)] w (Ev1 w g F s' k n d b) := by
  subst he hs hd hk hn hb
  exact Next_any h
theorem Len_as {w : World} {g : Nat} {F : List Nat} {s : LS} (h : Ln false w g F s) (k : Int) (hk : (s.b.length : Int) = k) : Calls Try.prog 19 #[.pointer (some ⟨g, 0, none⟩)] w fun e w' => e = .returned (.int .i64 k) ∧ w = w' := by
  subst hk
  exact Len_any h

set_option maxRecDepth 100000 in
set_option maxHeartbeats 1000000 in
theorem known_any (w : World) : Calls Try.prog 20 #[] w fun e w' => e = .returned (.bool true) ∧ Only [] w w' := by
  have kc := fun (w : World) (C : Array Value) (n c g : Nat) (hg : g = w.heap.size) => Joins.run_convert_bytes_const_at (P := Try.prog) w 27 5 C n c g hg Try.underlying27 Try.underlying5
  have HF := Lib.hid (fun (W : World) (g : Nat) (F : List Nat) (h : Ln false W g F K0) (A : Option Addr) (c : Nat) (hx : Sl W A 4 (bvs [97, 13, 10, 98])) => feed_as h A 4 c hx k_feed.1 k_feed.2)
  have HN1 := Lib.hid (fun (W : World) (g : Nat) (F : List Nat) (h : Ln false W g F K1) => next_as (k := 1) (n := 1) (d := [97]) (b := true) h k_one.1 k_one.2 rfl rfl rfl rfl)
  have HN2 := Lib.hid (fun (W : World) (g : Nat) (F : List Nat) (h : Ln false W g F K2) => next_as (k := 0) (n := 0) (d := []) (b := false) h k_two.1 k_two.2 rfl rfl rfl rfl)
  have HL := Lib.hid (fun (W : World) (g : Nat) (F : List Nat) (h : Ln false W g F K2) => Len_as h 1 rfl)
  have HW := Lib.hid (new_any w)
  have HLIT : Hid (∀ W : World, Sl (W.alloc (.cells #[.int .u8 97, .int .u8 13, .int .u8 10, .int .u8 98] 5 (4, 5))) (some ⟨W.heap.size, 0, none⟩) 4 (bvs [97, 13, 10, 98])) := fun W => sl_lit [97, 13, 10, 98] W 4 (4, 5) #[.int .u8 97, .int .u8 13, .int .u8 10, .int .u8 98] rfl rfl _ rfl
  go_enter Try.func20, Try.ntmps20
  go_wp2_with (first
    | (go_at_call 19; refine (HL.out _ _ F6 L7).mono ?_; rintro e w7 ⟨rfl, rfl⟩)
    | (go_at_call 14; refine (HN2.out _ _ F4 (L4.keep ((Only.refl [] w4).alloc _))).mono ?_; clear HN2; rintro e w6 ⟨A6, c6, F6, rfl, V6, B6, L6, O6, S6⟩
       have hg4 := L4.lt
       have hF4 := L4.flt
       have hF3 := L3.flt
       have hg3 := L3.lt
       have E6 := ((Bk.new w4 36 #[.int .i64 1, .slice A4 1 c4]).only O6 (fun hm => by rcases List.mem_cons.1 hm with h | h; omega; have := hF4 _ h; omega)).alloc (.cells #[.int .i64 0, .slice A6 0 c6] 36)
       have e0 : (w6.alloc (.cells #[.int .i64 0, .slice A6 0 c6] 36)).cell? ⟨w4.heap.size, 0, none⟩ = some (.int .i64 1) := (by rw [E6.cell]; rfl)
       have e1 : (w6.alloc (.cells #[.int .i64 0, .slice A6 0 c6] 36)).cell? ⟨w4.heap.size, 1, none⟩ = some (.slice A4 1 c4) := (by rw [E6.cell]; rfl)
       have hcv := str_of (((V4.alloc _).only O6 (fun ad e hm => by subst e; have := B4 ad.block (by simp); rcases List.mem_cons.1 hm with h | h; omega; have := hF3 _ (S4 _ h); omega)).alloc (.cells #[.int .i64 0, .slice A6 0 c6] 36)) c4
       have L7 := L6.keep ((Only.refl [] w6).alloc (.cells #[.int .i64 0, .slice A6 0 c6] 36))
       clear E6 hg4 hF4 hF3 hg3)
    | (go_at_call 14; refine (HN1.out _ _ F3 L3).mono ?_; clear HN1; rintro e w4 ⟨A4, c4, F4, rfl, V4, B4, L4, O4, S4⟩)
    | (go_at_call 12; refine (HF.out (w1.alloc (.cells #[.int .u8 97, .int .u8 13, .int .u8 10, .int .u8 98] 5 (4, 5))) _ [] (L1.keep ((Only.refl [] w1).alloc _)) (some ⟨w1.heap.size, 0, none⟩) 4 (HLIT.out w1)).mono ?_; clear HF; rintro e w3 ⟨F3, rfl, L3, O3, B3⟩)
    | (go_at_call 11; refine HW.out.mono ?_; clear HW; rintro e w1 ⟨rfl, L1, O1, -⟩))
  go_ret
  have Q2 := O1.alloc (.cells #[.int .u8 97, .int .u8 13, .int .u8 10, .int .u8 98] 5 (4, 5))
  have Q3 := own_step Q2 O3 (fp_new w)
  have P3 := fp_step Q2 (fp_new w) B3
  have Q4 := own_step Q3 O4 P3
  have P4 := fp_sub P3 S4
  exact ⟨rfl, (own_step (Q4.alloc _) O6 P4).alloc _⟩

theorem new_g (w : World) : Calls Try.prog 11 #[] w fun e w' => ∃ g, e = .returned (.pointer (some ⟨g, 0, none⟩)) ∧ Ln false w' g [] K0 ∧ Only [] w w' ∧ ∀ x ∈ g :: ([] : List Nat), w.heap.size ≤ x :=
  (new_any w).mono fun _ _ h => ⟨_, h.1, h.2.1, h.2.2.1, by simp⟩

/-- k bytes of nought, laid anew. -/
def zeros (k : Nat) : Array Value := (Array.replicate k (.int .u8 0))
theorem make_zeros (k : Nat) (hk : k ≤ 1048576) (W : World) :
    (Instr.makeSlice 27 (.int .i64 (k : Int)) (.int .i64 (k : Int))).run Try.prog W = .ok (.slice (some ⟨W.heap.size, 0, none⟩) k k) (W.alloc (.cells (zeros k) 5)) := by
  obtain ⟨i0, hi, hz0, hz1, hz2⟩ := info_parts infoByte
  have hr := run_make (P := Try.prog) W 27 5 i0 _ Try.underlying27 hi hz0 .i64 .i64 (k : Int) (k : Int) (by omega) (by omega) (by rw [hz2]; omega) (by omega)
  simp only [Int.toNat_natCast] at hr
  rw [hr]
  have : madeCells (Value.cells (.int .u8 0)) (k * i0.size) = zeros k := by
    rw [hz1, Nat.mul_one]
    unfold zeros madeCells
    apply Array.ext
    · simp
    · intro i h1 h2
      simp [Value.cells, Nat.mod_one]
  rw [this]
theorem own_zeros (W : World) (k : Nat) (hk : k ≤ maxLen) : Own (W.alloc (.cells (zeros k) 5)) 5 (some ⟨W.heap.size, 0, none⟩) k k (bvs (List.replicate k 0)) := by
  have h := World.ownsRow_lit W (base := 0) (e := 5) (size := 1) (zeros k) k (Nat.zero_le _) hk (by simp [zeros])
  have e : (zeros k).toList = bvs (List.replicate k 0) := by simp [zeros, bvs, bv]
  rw [e] at h
  exact h
def KZ (k : Nat) : LS := ⟨List.replicate k 0, false, none⟩
theorem feed_fits (a b : Nat) (h : b + a ≤ 4096) : feedE (KZ a) (List.replicate b 0) = 0 ∧ feedS (KZ a) (List.replicate b 0) = KZ (a + b) := by
  unfold feedE feedS KZ
  simp only [List.length_replicate]
  rw [if_pos h, if_pos h]
  exact ⟨rfl, by rw [List.replicate_append_replicate]⟩
theorem feed_over (a b : Nat) (h : ¬ b + a ≤ 4096) : feedE (KZ a) (List.replicate b 0) = 5 ∧ feedS (KZ a) (List.replicate b 0) = KZ a := by
  unfold feedE feedS KZ
  simp only [List.length_replicate]
  rw [if_neg h, if_neg h]
  exact ⟨rfl, rfl⟩
end Go.Proofs.Ytiekhgignmbaeaa
