/-
  lex.cut and Wants: how many bytes a line wants, and what stands ahead of that.
-/
import Derived.Test.YtbbgdcnnacakjaaDoorYSuf
import Derived.Lib.SlBytesConst
namespace Go.Proofs.YtbbgdcnnacakjaaDoor
open Go.RowKit Go.Instr

section
variable {w : World} {A : Option Addr} {n c : Nat} {l : List UInt8}
/-- What is answered of a line. -/
def cutO (A : Option Addr) (c : Nat) (o : Option (List UInt8 × Nat)) : Value := match o with
  | none => .tuple #[.slice none 0 0, .int .i64 0, .bool false]
  | some (a, k) => .tuple #[.slice A a.length c, .int .i64 (k : Int), .bool true]
set_option maxRecDepth 100000 in
theorem cut_any (hs : Bt w A n c l) (hn : n ≤ 140737488355328) : Calls Tryd.prog 21 #[.slice A n c] w fun e w' => e = .returned (cutO A c (cutL l)) ∧ Only [] w w' := by
  have hl := hs.len
  have hcap := hs.cap
  have hO1 : Only [] w (w.alloc (.cells #[.int .u8 125] 5 (1, 2))) := (Only.refl _ _).alloc _
  have hc1 : (w.alloc (.cells #[.int .u8 125] 5 (1, 2))).cell? ⟨w.heap.size, 0, none⟩ = some (bv 125) := by rw [World.cell?_alloc_mark]; rfl
  have hs1 := hs.keep hO1
  obtain ⟨V, hV⟩ : ∃ V, cutO A c (cutL l) = V := ⟨_, rfl⟩
  have kc := fun (w : World) (C : Array Value) (n c : Nat) => Lib.run_convert_bytes_const (P := Tryd.prog) w 32 5 C n c Tryd.underlying32 Tryd.underlying5
  rw [hV]
  by_cases h125 : l.getLast? = some 125
  · have hS := suf_hit' hs1 h125 w.heap.size 0 1 hc1
    have hd : l.dropLast = l.take (n - 1) := by rw [List.dropLast_eq_take, hl]
    have hin := hs1.pre (k := n - 1) (by omega)
    rw [← hd] at hin
    have hI := lastIndex_any hin (by omega) 123
    have hin0 := hs.pre (k := n - 1) (by omega)
    rw [← hd] at hin0
    have hn0 : 0 < n := by
      rw [← hl]
      cases l with
      | nil => cases h125
      | cons y r => simp
    unfold cutL at hV
    rw [if_pos h125] at hV
    obtain ⟨p, hp⟩ : ∃ p, l.dropLast = p := ⟨_, rfl⟩
    rw [hp] at hin hI hin0 hV
    have hpl := hin0.len
    cases hi : lastI 123 p with
    | none =>
      rw [hi] at hV
      have HE : Hid (V = .tuple #[.slice none 0 0, .int .i64 0, .bool false]) := by
        show _ = _
        rw [← hV]; rfl
      have hv : lastV 123 p = -1 := by unfold lastV; rw [hi]
      rw [hv] at hI
      rw [show bv 123 = .int .u8 123 from rfl] at hI
      clear hs hs1 hin hin0 hV hd hp hpl h125 hl hc1
      go_enter Tryd.func21, Tryd.ntmps21
      go_wp2_with first
        | (go_at_call 27; with_reducible refine hS.mono ?_; rintro e w2 ⟨rfl, rfl⟩)
        | (go_at_call 28; with_reducible refine hI.mono ?_; rintro e w2 ⟨rfl, rfl⟩)
      go_ret3
      exact ⟨by rw [HE.out]; rfl, hO1⟩
    | some i =>
      rw [hi] at hV
      simp only at hV
      have hin1 : i < p.length := lastI_lt hi
      have hv : lastV 123 p = (i : Int) := by unfold lastV; rw [hi]
      rw [hv] at hI
      rw [show bv 123 = .int .u8 123 from rfl] at hI
      obtain ⟨m, hm⟩ : ∃ m, n - 1 = m := ⟨_, rfl⟩
      rw [hm] at hS hI hin hin0 hpl
      rw [hpl] at hin1
      have hq := hin.cut (k := i + 1) (by omega)
      have hpre := hin0.pre (k := i) (by omega)
      have hN := lnumber_any hq
      rw [if_neg (by omega)] at hN
      have hik : (i : Int) + 1 ≤ (m : Int) := by omega
      have hmc : (m : Int) ≤ (c : Int) := by omega
      have hic : (i : Int) ≤ (c : Int) := by omega
      have hck : ¬ c = i + 1 := by omega
      cases hd2 : numD (p.drop (i + 1)) with
      | none =>
        rw [hd2] at hV hN
        simp only [numO] at hN
        have HE : Hid (V = .tuple #[.slice none 0 0, .int .i64 0, .bool false]) := by
          show _ = _
          rw [← hV]; rfl
        have HN := Lib.hid hN
        have HS := Lib.hid hS
        have HI := Lib.hid hI
        clear hs hs1 hin hin0 hV hd hp hpl h125 hl hc1 hq hpre hN hv hi hd2 hS hI
        go_enter Tryd.func21, Tryd.ntmps21
        go_wp2_with first
          | (go_at_call 27; with_reducible refine HS.out.mono ?_; rintro e w2 ⟨rfl, rfl⟩)
          | (go_at_call 28; with_reducible refine HI.out.mono ?_; rintro e w2 ⟨rfl, rfl⟩)
          | (go_at_call 29; refine HN.out.mono ?_; rintro e w2 ⟨rfl, rfl⟩)
        go_ret3
        exact ⟨by rw [HE.out]; rfl, hO1⟩
      | some k =>
        rw [hd2] at hV hN
        simp only [numO] at hN
        have HE : Hid (V = .tuple #[.slice A i c, .int .i64 (k : Int), .bool true]) := by
          show _ = _
          rw [← hV]
          show cutO A c (some _) = _
          unfold cutO
          simp only
          rw [List.length_take, hpl, Nat.min_eq_left (by omega)]
        have HN := Lib.hid hN
        have HS := Lib.hid hS
        have HI := Lib.hid hI
        clear hs hs1 hin hin0 hV hd hp hpl h125 hl hc1 hq hpre hN hv hi hd2 hS hI
        go_enter Tryd.func21, Tryd.ntmps21
        go_wp2_with first
          | (go_at_call 27; with_reducible refine HS.out.mono ?_; rintro e w2 ⟨rfl, rfl⟩)
          | (go_at_call 28; with_reducible refine HI.out.mono ?_; rintro e w2 ⟨rfl, rfl⟩)
          | (go_at_call 29; refine HN.out.mono ?_; rintro e w2 ⟨rfl, rfl⟩)
        go_ret3
        exact ⟨by rw [HE.out]; rfl, hO1⟩
  · have hS := suf_miss' hs1 h125 w.heap.size 0 1 hc1
    have hI := lastIndex_any hs1 hn 123
    obtain ⟨v, hv⟩ : ∃ v, lastV 123 l = v := ⟨_, rfl⟩
    rw [hv] at hI
    rw [show bv 123 = .int .u8 123 from rfl] at hI
    have HE : Hid (V = .tuple #[.slice none 0 0, .int .i64 0, .bool false]) := by
      show _ = _
      rw [← hV]
      unfold cutL
      rw [if_neg h125]
      rfl
    clear hs hs1 hV h125 hl hc1 hv
    go_enter Tryd.func21, Tryd.ntmps21
    go_wp2_with first
      | (go_at_call 27; with_reducible refine hS.mono ?_; rintro e w2 ⟨rfl, rfl⟩)
      | (go_at_call 28; with_reducible refine hI.mono ?_; rintro e w2 ⟨rfl, rfl⟩)
    go_ret3
    exact ⟨by rw [HE.out]; rfl, hO1⟩
/-- What a line wants is told as a number is. -/
theorem Wants_any (hs : Bt w A n c l) (hn : n ≤ 140737488355328) : Calls Tryd.prog 12 #[.slice A n c] w fun e w' => e = .returned (numO (wantL l)) ∧ Only [] w w' := by
  have h := cut_any hs hn
  unfold wantL
  clear hs
  cases hc : cutL l with
  | none =>
    rw [hc] at h
    unfold cutO at h
    simp only at h
    clear hc
    go_enter Tryd.func12, Tryd.ntmps12
    go_wp2_with (go_at_call 21; with_reducible refine h.mono ?_; rintro e w2 ⟨rfl, hO⟩)
    go_ret2
    exact ⟨rfl, hO⟩
  | some p =>
    obtain ⟨a, k⟩ := p
    rw [hc] at h
    unfold cutO at h
    simp only at h
    obtain ⟨q, hq⟩ : ∃ q, a.length = q := ⟨_, rfl⟩
    rw [hq] at h
    clear hc hq
    go_enter Tryd.func12, Tryd.ntmps12
    go_wp2_with (go_at_call 21; with_reducible refine h.mono ?_; rintro e w2 ⟨rfl, hO⟩)
    go_ret2
    exact ⟨rfl, hO⟩
end
end Go.Proofs.YtbbgdcnnacakjaaDoor
