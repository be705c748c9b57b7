/-
  Texts of the seat, laid one behind the other: AppNum Writer Reader2 Reader3 Writer2.
-/
import Derived.Test.YtgnilldcfpgpaaaGreatDoorY1
import Derived.WalkKit
import Derived.Handy
import Derived.Deep.DeepMust
import Derived.Deep.RegionHeld3
import Derived.Deep.RegionWith
import Derived.Deep.DrawnRows
namespace Go.Proofs.YtgnilldcfpgpaaaGreatDoor
open Go.RowKit
def Grew (w : World) (A : Option Addr) (l : List UInt8) (e : Ending) (w' : World) : Prop :=
  ∃ A' c', e = .returned (.slice A' l.length c') ∧ Own w' 5 A' l.length c' (bvs l) ∧ Only (blks A) w w' ∧ ∀ k ∈ blks A', k ∈ blks A ∨ w.heap.size ≤ k
set_option maxHeartbeats 400000 in
set_option maxRecDepth 100000 in
theorem appendNumber_any (A : Option Addr) (n c : Nat) (l : List UInt8) (v : Nat) (w : World) (hl : l.length = n) (hown : Own w 5 A n c (bvs l)) (hn : n ≤ 1099511627776) (hv : v ≤ 4611686018427387904) :
    Calls Tryz.prog 134 #[.slice A n c, .int .i64 v] w (Grew w A (l ++ enc v)) := by
  obtain ⟨i0, hi, hz0, hz1, hz2⟩ := info_parts infoByte
  go_enter Tryz.func134, Tryz.ntmps134
  go_wp2
  go_loopw [0, 1] (fun s x wr => ∃ (A' : Option Addr) (n' c' u : Nat) (p : List UInt8), s = .slice A' n' c' ∧ x = .int .i64 u ∧ u ≤ v ∧ p.length = n' ∧ Own wr 5 A' n' c' (bvs p) ∧ Hid (p ++ enc u = l ++ enc v) ∧ Only (blks A) w wr ∧ (∀ k ∈ blks A', k ∈ blks A ∨ w.heap.size ≤ k)) (fun _ x _ => (intOf x).toNat)
  case atStart => exact ⟨A, n, c, v, l, rfl, rfl, Nat.le_refl _, hl, hown, rfl, Only.refl _ _, fun k hk => .inl hk⟩
  case round =>
    obtain ⟨A', n', c', u, p, rfl, rfl, hu, hp, HV, HE, HO, HB⟩ := hrel
    have hb : n' ≤ 1099511627785 := by
      have h := congrArg List.length HE.out
      have h9 := enc_len9 hv
      simp only [List.length_append] at h
      omega
    by_cases hlt : u < 128
    · have hx : ((u : Int)) = ((UInt8.ofNat u).toNat : Int) := (ofNat_byte (by omega)).symm
      have HX := Lib.hid hx
      have HS := Lib.hid (enc_small hlt)
      clear hx
      go_wp2_with (at_builtin; go_must (refine wpList_append_sl rfl (.tmp 16) (.tmp 19) 27 rfl 5 i0 (.int .u8 0) 1 Tryz.underlying27 hi hz0 hz1 hz2 rfl A' _ c' _ rfl (HV.alloc _) _ 1 1 _ rfl (sl_one _ _ _ (UInt8.ofNat u) HX.out) (bvs_one _) (by unfold maxLen; omega) (by omega) ?_); intro A2 c2 w2 HV2 HO2 HB2)
      go_ret
      have hlen : n' + 1 = (l ++ enc v).length := by rw [← HE.out, HS.out, List.length_append, hp]; rfl
      refine ⟨A2, c2, by rw [← hlen]; rfl, ?_, (HO.alloc _).trans HO2 HB, fun x hx => ?_⟩
      · rw [← hlen, ← HE.out, HS.out, bvs_append]; exact HV2
      · rcases HB2 x hx with h | h
        · exact HB x h
        · exact .inr (by have := HO.size; simp at h; omega)
    · have hx : ((u : Int) % 128 + 128) = ((UInt8.ofNat (u % 128 + 128)).toNat : Int) := by rw [ofNat_byte (by omega)]; omega
      have HX := Lib.hid hx
      have HS := Lib.hid (enc_more hlt)
      have e1 := low7 u (by omega)
      have e2 := or128 u
      clear hx
      go_wp2_with (at_builtin; go_must (refine wpList_append_sl rfl (.tmp 7) (.tmp 12) 27 rfl 5 i0 (.int .u8 0) 1 Tryz.underlying27 hi hz0 hz1 hz2 rfl A' _ c' _ rfl (HV.alloc _) _ 1 1 _ rfl (sl_one _ _ _ (UInt8.ofNat (u % 128 + 128)) HX.out) (bvs_one _) (by unfold maxLen; omega) (by omega) ?_); intro A2 c2 w2 HV2 HO2 HB2)
      go_roundw
      case rel =>
        refine ⟨A2, n' + 1, c2, u / 128, p ++ [UInt8.ofNat (u % 128 + 128)], rfl, by go_num, by omega, by rw [List.length_append, hp]; rfl, by rw [bvs_append]; exact HV2, ?_, ?_, ?_⟩
        · show _ = _
          rw [List.append_assoc, List.singleton_append, ← HS.out, HE.out]
        · exact (HO.alloc _).trans HO2 HB
        · intro x hx
          rcases HB2 x hx with h | h
          · exact HB x h
          · exact .inr (by have := HO.size; simp at h; omega)
      case measure => simp [intOf]; omega
end Go.Proofs.YtgnilldcfpgpaaaGreatDoor
namespace Go.Proofs.YtgnilldcfpgpaaaGreatDoor
open Go.RowKit
attribute [local go_sem ↓] Go.wp_at_zero Go.wp_at_succ
def Wr (w : World) (g : Nat) (A : Option Addr) (c : Nat) (l : List UInt8) : Prop := Bk w g 134 #[.slice A l.length c] ∧ Own w 5 A l.length c (bvs l)
section
variable {w w' : World} {g : Nat} {A : Option Addr} {c : Nat} {l : List UInt8}
theorem Wr.new (w : World) : Wr (w.alloc (.cells #[.slice none 0 0] 134)) w.heap.size none 0 [] := ⟨Bk.new _ _ _, Own.nil _ _⟩
theorem Wr.only {rs : List Nat} (h : Wr w g A c l) (o : Only rs w w') (hg : g ∉ rs) (hA : ∀ k ∈ blks A, k ∉ rs) : Wr w' g A c l := ⟨h.1.only o hg, h.2.only o hA⟩
theorem Wr.keep (h : Wr w g A c l) (o : Only [] w w') : Wr w' g A c l := h.only o (fun hm => by cases hm) (fun _ _ hm => by cases hm)
theorem Wr.cell (h : Wr w g A c l) : w.cell? ⟨g, 0, none⟩ = some (.slice A l.length c) := by rw [h.1.cell]; rfl
theorem Wr.free (h : Wr w g A c l) : w.frozen? ⟨g, 0, none⟩ = false := h.1.free 0
theorem Wr.ne (h : Wr w g A c l) : g ∉ blks A := h.2.ne h.1 (by decide)
theorem Wr.lt (h : Wr w g A c l) : g < w.heap.size := h.1.lt
theorem Wr.set {A' : Option Addr} {c' : Nat} {l' : List UInt8} (h : Bk w g 134 #[.slice A l.length c]) (h' : Own w 5 A' l'.length c' (bvs l')) : Wr (w.setCell ⟨g, 0, none⟩ (.slice A' l'.length c')) g A' c' l' :=
  ⟨by simpa using h.set 0 (.slice A' l'.length c'), h'.setFar (h'.ne h (by decide)) _⟩
end
def Laid (w : World) (g : Nat) (A : Option Addr) (l : List UInt8) (e : Ending) (w' : World) : Prop :=
  e = .returned (.tuple #[]) ∧ ∃ A' c', Wr w' g A' c' l ∧ Only (g :: blks A) w w' ∧ ∀ k ∈ blks A', k ∈ blks A ∨ w.heap.size ≤ k
def encs (vs : List Int) : List UInt8 := (vs.map (fun v => enc (clamp v))).flatten
theorem encs_snoc (vs : List Int) (v : Int) : encs (vs ++ [v]) = encs vs ++ enc (clamp v) := by simp [encs]
theorem encs_take (vs : List Int) (k : Nat) (h : k < vs.length) : encs (vs.take (k + 1)) = encs (vs.take k) ++ enc (clamp vs[k]) := by
  rw [List.take_succ_eq_append_getElem h, encs_snoc]
def encsLen (vs : List Int) : Nat := (encs vs).length
theorem encsLen_le (vs : List Int) : encsLen vs ≤ 9 * vs.length := by
  unfold encsLen
  induction vs with
  | nil => simp [encs]
  | cons v vs ih =>
    have h9 := enc_len9 (clamp_le v)
    simp only [encs, List.map_cons, List.flatten_cons, List.length_append, List.length_cons] at ih ⊢
    omega
set_option maxHeartbeats 800000 in
set_option maxRecDepth 100000 in
theorem wnums_any (g : Nat) (A : Option Addr) (c : Nat) (l : List UInt8) (V : Option Addr) (n cv : Nat) (vs : List Int) (w : World) (hw : Wr w g A c l) (hv : Sl w V n (ivs vs)) (hf : Fits vs)
    (hd : 0 < n → ∀ ad, V = some ad → ad.block ∉ g :: blks A) (hn : n ≤ 1000000000) (hl : l.length ≤ 1000000000) :
    Calls Tryz.prog 59 #[.pointer (some ⟨g, 0, none⟩), .slice V n cv] w (Laid w g A (l ++ encs vs)) := by
  have hlen : vs.length = n := by simpa using hv.len
  go_enter Tryz.func59, Tryz.ntmps59
  go_wp2
  go_loopw [10] (fun i wr => ∃ (k : Nat) (A' : Option Addr) (c' : Nat), k ≤ n ∧ i = .int .i64 k ∧ Wr wr g A' c' (l ++ encs (vs.take k)) ∧ Only (g :: blks A) w wr ∧ (∀ x ∈ blks A', x ∈ blks A ∨ w.heap.size ≤ x)) (fun i _ => n - (intOf i).toNat)
  case atStart => exact ⟨0, A, c, Nat.zero_le _, rfl, by simpa [encs] using hw, Only.refl _ _, fun x hx => .inl hx⟩
  case round =>
    obtain ⟨k, A', c', hk, rfl, HW, HO, HB⟩ := hrel
    by_cases hlt : k < n
    · obtain ⟨ad, u, rfl, hu, hcell⟩ := (hv.only' HO hd).at_ hlt
      rw [ivs_get _ _ (by omega)] at hu
      obtain rfl : Value.int .i64 _ = u := by injection hu
      obtain ⟨f1, f2⟩ := hf.at_ k (by omega)
      have HE := Lib.hid (encs_take vs k (by omega))
      have hbig : (l ++ encs (vs.take k)).length ≤ 1099511627776 := by
        have h := encsLen_le (vs.take k)
        rw [List.length_take] at h
        unfold encsLen at h
        rw [List.length_append]
        omega
      have hc0 := HW.cell
      have hlt0 := HW.lt
      generalize hp : l ++ encs (vs.take k) = p at *
      have HP := Lib.hid hp
      have hcl := clamp_le (vs[k]'(by omega))
      clear hu hp
      go_wp2
      go_region_with (first | (go_at_call 135; refine (within_any _ _ f1 f2).mono ?_; rintro e w' ⟨rfl, rfl⟩) | (go_at_call 134; refine (appendNumber_any A' p.length c' p (clamp (vs[k]'(by omega))) _ rfl (by exact HW.2.drew) hbig hcl).mono ?_; rintro e w' ⟨A2, c2, rfl, HV2, HO2, HB2⟩; have HC2 := HO2.cellSome (p := ⟨g, 0, none⟩) hc0 HW.ne; have HF2 := (HO2.frozen (p := ⟨g, 0, none⟩) hlt0 HW.ne).trans HW.free; have HK2 := HW.1.drew.only HO2 HW.ne))
      all_goals try go_wp2
      all_goals
        go_roundw
        case rel =>
          have hpl : (p ++ enc (clamp (vs[k]'(by omega)))).length = p.length + (enc (clamp (vs[k]'(by omega)))).length := List.length_append
          refine ⟨k + 1, A2, c2, by omega, by go_num, ?_, ?_, fun x hx => ?_⟩
          · rw [HE.out, ← List.append_assoc, HP.out]
            have hs := Wr.set HK2 HV2
            rw [hpl] at hs
            exact hs
          · refine (HO.trans (by exact ⟨HO2.os, HO2.tape, HO2.output, HO2.size, HO2.block⟩ : Only (blks A') wr _) (fun x hx => by rcases HB x hx with h | h; exact .inl (List.mem_cons_of_mem _ h); exact .inr h)).setCell (.inl (by simp)) _
          · rcases HB2 x hx with h | h
            · exact HB x h
            · exact .inr (by have := HO.size; simp at h; omega)
        case measure => simp [intOf]; omega
    · obtain rfl : k = n := by omega
      have HT := Lib.hid (show vs.take k = vs from List.take_of_length_le (by omega))
      go_wp2
      go_end0
      rw [HT.out] at HW
      exact ⟨rfl, A', c', HW, HO, HB⟩
end Go.Proofs.YtgnilldcfpgpaaaGreatDoor
namespace Go.Proofs.YtgnilldcfpgpaaaGreatDoor
open Go.RowKit
attribute [local go_sem ↓] Go.wp_at_zero Go.wp_at_succ
def takeV (bad : Bool) (l : List UInt8) : Nat := if bad then 0 else decV l
def takeBad (bad : Bool) (l : List UInt8) : Bool := bad || decide (decN l = 0)
def takeRest (bad : Bool) (l : List UInt8) : List UInt8 := if takeBad bad l then [] else l.drop (decN l)
theorem decV_zero {l : List UInt8} (h : decN l = 0) : decV l = 0 := by
  have := dec_none_of h
  simp [decV, this]
set_option maxHeartbeats 800000 in
set_option maxRecDepth 100000 in
theorem num_any {w : World} {g kb : Nat} {A : Option Addr} {c : Nat} {bad : Bool} {l : List UInt8} (h : Rd w g kb A c bad l) :
    Calls Tryz.prog 71 #[.pointer (some ⟨g, 0, none⟩)] w (TookNum w g kb (takeV bad l) (takeBad bad l) (takeRest bad l)) := by
  cases bad
  · have h0 := h.cell0
    have f0 := h.bk.free 0
    have hsm := h.small
    have hcp := h.cap
    have hdn := decN_le l
    have hdv := decV_le l
    by_cases hz : decN l = 0
    · have HZ : Hid (takeV false l = 0 ∧ takeBad false l = true ∧ takeRest false l = []) := by
        show _ ∧ _
        simp [takeV, takeBad, takeRest, hz, decV_zero hz]
      have HF := Lib.hid (firstNumber_any A l.length c l w h.sl (by omega))
      rw [hz] at HF
      clear hz hdn
      go_enter Tryz.func71, Tryz.ntmps71
      go_wp2_with (first
        | (go_at_call 70; go_must (refine (good_any h).mono ?_); rintro e w' ⟨rfl, rfl⟩)
        | (go_at_call 138; go_must (refine HF.out.mono ?_); rintro e w' ⟨rfl, rfl⟩)
        | (go_at_call 69; go_must (refine (bad_any h).mono ?_); rintro e w' ⟨rfl, HR, HO⟩))
      go_ret
      rw [HZ.out.1, HZ.out.2.1, HZ.out.2.2]
      exact ⟨rfl, none, 0, HR, HO⟩
    · have HZ : Hid (takeV false l = decV l ∧ takeBad false l = false ∧ takeRest false l = l.drop (decN l)) := by
        show _ ∧ _
        simp [takeV, takeBad, takeRest, hz]
      have HF := Lib.hid (firstNumber_any A l.length c l w h.sl (by omega))
      have HM := Lib.hid (h.moved hdn)
      generalize hn : decN l = n at *
      generalize hv : decV l = v at *
      have hx : ((n : Int) == 0) = false := by rw [beq_eq_false_iff_ne]; omega
      have hnc : n ≤ c := by omega
      clear hz hn hv
      go_enter Tryz.func71, Tryz.ntmps71
      go_wp2_with (first
        | (go_at_call 70; go_must (refine (good_any h).mono ?_); rintro e w' ⟨rfl, rfl⟩)
        | (go_at_call 138; go_must (refine HF.out.mono ?_); rintro e w' ⟨rfl, rfl⟩))
      all_goals go_ret
      all_goals
        have hm := HM.out
        rw [HZ.out.1, HZ.out.2.1, HZ.out.2.2]
        have ho := fun x => (Only.refl [g] w).setCell (p := ⟨g, 0, none⟩) (.inl (by simp)) x
        first
          | (rw [if_neg (by assumption)] at hm; exact ⟨rfl, _, _, hm, ho _⟩)
          | (rw [if_pos (by assumption), show c - n = 0 from by omega] at hm; exact ⟨rfl, _, _, hm, ho _⟩)
  · have hl := h.err rfl
    subst hl
    have HZ : Hid (takeV true [] = 0 ∧ takeBad true [] = true ∧ takeRest true [] = []) := by
      show _ ∧ _
      simp [takeV, takeBad, takeRest]
    go_enter Tryz.func71, Tryz.ntmps71
    go_wp2_with (first
        | (go_at_call 70; go_must (refine (good_any h).mono ?_); rintro e w' ⟨rfl, rfl⟩))
    go_ret
    rw [HZ.out.1, HZ.out.2.1, HZ.out.2.2]
    exact ⟨rfl, A, c, h, Only.refl _ _⟩
def rawBad (bad : Bool) (l : List UInt8) (n : Int) : Bool := bad || decide (n < 0) || decide ((l.length : Int) < n)
def rawRow (bad : Bool) (l : List UInt8) (n : Int) : List UInt8 := if rawBad bad l n then [] else l.take n.toNat
def rawRest (bad : Bool) (l : List UInt8) (n : Int) : List UInt8 := if rawBad bad l n then [] else l.drop n.toNat
theorem raw_of_bad {bad : Bool} {l : List UInt8} {n : Int} (h : rawBad bad l n = true) : rawRow bad l n = [] ∧ rawRest bad l n = [] := by
  simp [rawRow, rawRest, h]
theorem raw_of_good {bad : Bool} {l : List UInt8} {n : Int} (h : rawBad bad l n = false) : rawRow bad l n = l.take n.toNat ∧ rawRest bad l n = l.drop n.toNat := by
  simp [rawRow, rawRest, h]
set_option maxHeartbeats 800000 in
set_option maxRecDepth 100000 in
theorem rraw_any {w : World} {g kb : Nat} {A : Option Addr} {c : Nat} {bad : Bool} {l : List UInt8} (n : Int) (h : Rd w g kb A c bad l) :
    Calls Tryz.prog 139 #[.pointer (some ⟨g, 0, none⟩), .int .i64 n] w (TookRow w g kb (rawRow bad l n) (rawBad bad l n) (rawRest bad l n)) := by
  by_cases hout : n < 0 ∨ (l.length : Int) < n
  · have hb : rawBad bad l n = true := by
      unfold rawBad
      rcases hout with ho | ho <;> simp [ho]
    have HB := Lib.hid hb
    have HZ := Lib.hid (raw_of_bad hb)
    clear hb
    by_cases hneg : n < 0
    · clear hout
      go_enter Tryz.func139, Tryz.ntmps139
      go_wp2_with (first
        | (go_at_call 69; go_must (refine (bad_any h).mono ?_); rintro e w1 ⟨rfl, HR, HO⟩)
        | (go_at_call 70; go_must (refine (good_any HR).mono ?_); rintro e w' ⟨rfl, rfl⟩))
      go_ret
      rw [HZ.out.1, HB.out, HZ.out.2]
      exact ⟨none, 0, none, 0, rfl, Own.nil _ _, fun k hk => (by cases hk), HR, HO⟩
    · have hbig : (l.length : Int) < n := by omega
      clear hout
      go_enter Tryz.func139, Tryz.ntmps139
      go_wp2_with (first
        | (go_at_call 140; go_must (refine (left_any h).mono ?_); rintro e w' ⟨rfl, rfl⟩)
        | (go_at_call 69; go_must (refine (bad_any h).mono ?_); rintro e w1 ⟨rfl, HR, HO⟩)
        | (go_at_call 70; go_must (refine (good_any HR).mono ?_); rintro e w' ⟨rfl, rfl⟩))
      go_ret
      rw [HZ.out.1, HB.out, HZ.out.2]
      exact ⟨none, 0, none, 0, rfl, Own.nil _ _, fun k hk => (by cases hk), HR, HO⟩
  · have h0 : 0 ≤ n := by omega
    obtain ⟨m, rfl⟩ := Int.eq_ofNat_of_zero_le h0
    have hml : m ≤ l.length := by omega
    cases bad
    · have hb : rawBad false l (m : Int) = false := by
        unfold rawBad
        simp
        omega
      have HB := Lib.hid hb
      have hz := raw_of_good hb
      rw [Int.toNat_natCast] at hz
      have HZ := Lib.hid hz
      have hsm := h.small
      have hcp := h.cap
      have hc0 := h.cell0
      have hlen : (l.take m).length = m := by rw [List.length_take]; omega
      have hpre := h.sl.pre hml
      rw [bvs_take] at hpre
      have HPre := Lib.hid hpre
      clear hb hz hpre hout
      go_enter Tryz.func139, Tryz.ntmps139
      go_wp2_with (first
        | (go_at_call 140; go_must (refine (left_any h).mono ?_); rintro e w' ⟨rfl, rfl⟩)
        | (go_at_call 70; go_must (refine (good_any h).mono ?_); rintro e w' ⟨rfl, rfl⟩))
      refine (join_one w A c m _ hlen HPre.out (by omega)).mono ?_
      rintro e w1 ⟨⟨P, cp, rfl, HV, HO, HB1⟩, _⟩
      have hR1 := h.keep HO
      have k0 := hR1.cell0
      have z0 := hR1.bk.free 0
      have HM := Lib.hid (hR1.moved hml)
      have ho := Lib.hid (fun x => (HO.mono (ss := [g]) (fun _ hx => by cases hx)).setCell (p := ⟨g, 0, none⟩) (.inl (by simp)) x)
      have HV2 := Lib.hid (fun x => HV.setFar (p := ⟨g, 0, none⟩) (HV.ne hR1.bk (by decide)) x)
      clear hc0
      rw [hlen] at HV2 ⊢
      go_wp2
      all_goals go_ret
      all_goals
        have hm := HM.out
        rw [HZ.out.1, HB.out, HZ.out.2]
        first
          | (rw [if_neg (by assumption)] at hm; exact ⟨P, cp, _, _, by rw [hlen]; rfl, by rw [hlen]; exact HV2.out _, HB1, hm, ho.out _⟩)
          | (rw [if_pos (by assumption), show c - m = 0 from by omega] at hm; exact ⟨P, cp, _, _, by rw [hlen]; rfl, by rw [hlen]; exact HV2.out _, HB1, hm, ho.out _⟩)
    · have hl := h.err rfl
      subst hl
      obtain rfl : m = 0 := by simpa using hml
      have HZ : Hid (rawRow true [] ((0 : Nat) : Int) = [] ∧ rawBad true [] ((0 : Nat) : Int) = true ∧ rawRest true [] ((0 : Nat) : Int) = []) := by
        show _ ∧ _
        simp [rawRow, rawBad, rawRest]
      clear hout h0 hml
      go_enter Tryz.func139, Tryz.ntmps139
      go_wp2_with (first
        | (go_at_call 140; go_must (refine (left_any h).mono ?_); rintro e w' ⟨rfl, rfl⟩)
        | (go_at_call 70; go_must (refine (good_any h).mono ?_); rintro e w' ⟨rfl, rfl⟩))
      go_ret
      rw [HZ.out.1, HZ.out.2.1, HZ.out.2.2]
      exact ⟨none, 0, A, c, rfl, Own.nil _ _, fun k hk => (by cases hk), h, Only.refl _ _⟩
end Go.Proofs.YtgnilldcfpgpaaaGreatDoor
namespace Go.Proofs.YtgnilldcfpgpaaaGreatDoor
open Go.RowKit
def rowTook (bad : Bool) (l : List UInt8) : List UInt8 := rawRow (takeBad bad l) (takeRest bad l) (takeV bad l)
def rowBad (bad : Bool) (l : List UInt8) : Bool := rawBad (takeBad bad l) (takeRest bad l) (takeV bad l)
def rowRest (bad : Bool) (l : List UInt8) : List UInt8 := rawRest (takeBad bad l) (takeRest bad l) (takeV bad l)
set_option maxRecDepth 100000 in
theorem rbytes_any {w : World} {g kb : Nat} {A : Option Addr} {c : Nat} {bad : Bool} {l : List UInt8} (h : Rd w g kb A c bad l) :
    Calls Tryz.prog 72 #[.pointer (some ⟨g, 0, none⟩)] w (TookRow w g kb (rowTook bad l) (rowBad bad l) (rowRest bad l)) := by
  go_enter Tryz.func72, Tryz.ntmps72
  go_wp2_with (first
    | (go_at_call 71; go_must (refine (num_any h).mono ?_); rintro e w1 ⟨rfl, A1, c1, HR, HO⟩)
    | (go_at_call 139; go_must (refine (rraw_any _ HR).mono ?_); rintro e w2 ⟨P, cp, A2, c2, rfl, HV, HB, HR2, HO2⟩))
  go_ret
  exact ⟨P, cp, A2, c2, rfl, HV, fun k hk => Nat.le_trans HO.size (HB k hk), HR2, HO.trans HO2 (fun x hx => .inl hx)⟩
def MadeR (w : World) (l : List UInt8) (e : Ending) (w' : World) : Prop :=
  ∃ g kb A c, e = .returned (.pointer (some ⟨g, 0, none⟩)) ∧ w.heap.size ≤ g ∧ w.heap.size ≤ kb ∧ Rd w' g kb A c false l ∧ Only [] w w'
set_option maxRecDepth 100000 in
theorem newReader_any (w : World) (A : Option Addr) (n c : Nat) (l : List UInt8) (hs : Sl w A n (bvs l)) (hn : n ≤ 1000000000000) :
    Calls Tryz.prog 66 #[.slice A n c] w (MadeR w l) := by
  have hl : l.length = n := by simpa using hs.len
  go_enter Tryz.func66, Tryz.ntmps66
  go_wp2_with (go_at_call 137; go_must (refine (join_one w A c n l hl hs hn).mono ?_); rintro e w1 ⟨⟨P, cp, rfl, HV, HO, HB⟩, hlt0⟩)
  go_ret
  have hsz := HO.size
  cases P with
  | none =>
    refine ⟨w1.heap.size, w.heap.size, none, cp, rfl, hsz, Nat.le_refl _, ⟨by rw [hl]; exact Bk.new _ _ _, HV.sl.alloc _, HV.cap, fun _ e => (by cases e), by omega, by simp; omega, fun e => (by cases e), by omega⟩, HO.alloc _⟩
  | some ad =>
    have hlt : ad.block < w1.heap.size := HV.lt (by simp)
    refine ⟨w1.heap.size, ad.block, some ad, cp, rfl, hsz, HB _ (by simp), ⟨by rw [hl]; exact Bk.new _ _ _, HV.sl.alloc _, HV.cap, fun a e => (by injection e with e; subst e; rfl), by omega, by simp; omega, fun e => (by cases e), by omega⟩, HO.alloc _⟩
end Go.Proofs.YtgnilldcfpgpaaaGreatDoor
namespace Go.Proofs.YtgnilldcfpgpaaaGreatDoor
open Go.RowKit
attribute [local go_sem ↓] Go.wp_at_zero Go.wp_at_succ
set_option maxHeartbeats 400000 in
set_option maxRecDepth 100000 in
theorem wraw_any (g : Nat) (A : Option Addr) (c : Nat) (l : List UInt8) (V : Option Addr) (n cv : Nat) (p : List UInt8) (w : World) (hw : Wr w g A c l) (hv : Sl w V n (bvs p))
    (hn : n ≤ 1000000000000) (hl : l.length ≤ 1000000000000) :
    Calls Tryz.prog 136 #[.pointer (some ⟨g, 0, none⟩), .slice V n cv] w (Laid w g A (l ++ p)) := by
  obtain ⟨i0, hi, hz0, hz1, hz2⟩ := info_parts infoByte
  have hlen : p.length = n := by simpa using hv.len
  have hc0 := hw.cell
  go_enter Tryz.func136, Tryz.ntmps136
  go_wp2_with (at_builtin; go_must (refine wpList_append_sl rfl (.tmp 10) (.tmp 11) 27 rfl 5 i0 (.int .u8 0) 1 Tryz.underlying27 hi hz0 hz1 hz2 rfl A _ c _ rfl hw.2 V n cv _ rfl hv (bvs_one _) (by unfold maxLen; omega) (by omega) ?_); intro A2 c2 w2 HV2 HO2 HB2; have HF2 := (HO2.frozen (p := ⟨g, 0, none⟩) hw.lt hw.ne).trans hw.free; have HC2 := HO2.cellSome (p := ⟨g, 0, none⟩) hw.cell hw.ne; have HK2 := hw.1.only HO2 hw.ne)
  go_end0
  have hpl : (l ++ p).length = l.length + n := by rw [List.length_append, hlen]
  refine ⟨rfl, A2, c2, ?_, ?_, HB2⟩
  · rw [← bvs_append, ← hpl] at HV2
    have hs := Wr.set HK2 HV2
    rw [hpl] at hs
    exact hs
  · exact (HO2.mono (ss := g :: blks A) (fun x hx => .inl (List.mem_cons_of_mem _ hx))).setCell (.inl (by simp)) _
set_option maxRecDepth 100000 in
theorem out_any (g : Nat) (A : Option Addr) (c : Nat) (l : List UInt8) (w : World) (hw : Wr w g A c l) (hl : l.length ≤ 1000000000000) :
    Calls Tryz.prog 61 #[.pointer (some ⟨g, 0, none⟩)] w (Fresh w l) := by
  have hc0 := hw.cell
  go_enter Tryz.func61, Tryz.ntmps61
  go_wp2_with fail
  refine (join_any _ 1 1 [l] _ (Rw.one (Bk.new _ _ _) (hw.2.sl.alloc _)) (by omega) (by simpa using (by omega : l.length ≤ 1099511627776))).mono ?_
  rintro e w' ⟨A', c', rfl, HV, HO, HB⟩
  go_wp2
  go_ret
  exact ⟨A', c', rfl, by simpa using HV, ((Only.refl _ _).alloc _).trans HO (fun _ hx => by cases hx), fun k hk => by have := HB k hk; simp at this; omega⟩
def rowEnc (r : List UInt8) : List UInt8 := enc r.length ++ r
def rowsEnc (ls : List (List UInt8)) : List UInt8 := (ls.map rowEnc).flatten
theorem rowsEnc_take (ls : List (List UInt8)) (k : Nat) (h : k < ls.length) : rowsEnc (ls.take (k + 1)) = rowsEnc (ls.take k) ++ (enc ls[k].length ++ ls[k]) := by
  unfold rowsEnc
  rw [List.take_succ_eq_append_getElem h, List.map_append, List.flatten_append]
  simp [rowEnc]
def rowsLen (ls : List (List UInt8)) : Nat := (rowsEnc ls).length
theorem rowsLen_take (ls : List (List UInt8)) (k : Nat) : rowsLen (ls.take k) ≤ rowsLen ls := by
  have h : rowsEnc ls = rowsEnc (ls.take k) ++ rowsEnc (ls.drop k) := by
    unfold rowsEnc
    rw [← List.flatten_append, ← List.map_append, List.take_append_drop]
  unfold rowsLen
  rw [h, List.length_append]
  omega
set_option maxHeartbeats 800000 in
set_option maxRecDepth 100000 in
theorem wbytes_any (g : Nat) (A : Option Addr) (c : Nat) (l : List UInt8) (V : Option Addr) (n cv : Nat) (ls : List (List UInt8)) (w : World) (S : Nat → Prop) (hw : Wr w g A c l)
    (hv : RwS S w V n ls) (hS : ∀ k, S k → k ∉ g :: blks A) (hn : n ≤ 1000000000) (hl : l.length + rowsLen ls ≤ 900000000) :
    Calls Tryz.prog 60 #[.pointer (some ⟨g, 0, none⟩), .slice V n cv] w (Laid w g A (l ++ rowsEnc ls)) := by
  have hlen : ls.length = n := hv.len
  have HS := Lib.hid hS
  clear hS
  go_enter Tryz.func60, Tryz.ntmps60
  go_wp2
  go_loopw [8] (fun i wr => ∃ (k : Nat) (A' : Option Addr) (c' : Nat), k ≤ n ∧ i = .int .i64 k ∧ Wr wr g A' c' (l ++ rowsEnc (ls.take k)) ∧ Only (g :: blks A) w wr ∧ (∀ x ∈ blks A', x ∈ blks A ∨ w.heap.size ≤ x)) (fun i _ => n - (intOf i).toNat)
  case atStart => exact ⟨0, A, c, Nat.zero_le _, rfl, by simpa [rowsEnc] using hw, Only.refl _ _, fun x hx => .inl hx⟩
  case round =>
    obtain ⟨k, A', c', hk, rfl, HW, HO, HB⟩ := hrel
    by_cases hlt : k < n
    · have hkl : k < ls.length := by omega
      obtain ⟨ad, Ai, ci, rfl, hSa, hcell0, hrow, hSr⟩ := hv.at_ hlt hkl
      have hcell := HO.cellSome hcell0 (by rw [add_block]; exact HS.out _ hSa)
      have HE := Lib.hid (rowsEnc_take ls k hkl)
      have hb1 := rowsLen_take ls k
      have hb2 := rowsLen_take ls (k + 1)
      have hb3 : rowsLen (ls.take (k + 1)) = rowsLen (ls.take k) + ((enc (ls[k]'hkl).length).length + (ls[k]'hkl).length) := by
        unfold rowsLen
        rw [HE.out, List.length_append, List.length_append]
      have hbig : (l ++ rowsEnc (ls.take k)).length + (enc (ls[k]'hkl).length).length + (ls[k]'hkl).length ≤ 900000000 := by
        rw [List.length_append]
        unfold rowsLen at hb1 hb2 hb3 hl
        omega
      generalize hp : l ++ rowsEnc (ls.take k) = p at *
      have HP := Lib.hid hp
      have hCl := clamp_mid (v := ((ls[k]'hkl).length : Int)) (by omega) (by omega)
      rw [Int.toNat_natCast] at hCl
      have HCl : Hid (encs [((ls[k]'hkl).length : Int)] = enc (ls[k]'hkl).length) := by
        show _ = _
        simp [encs, hCl]
      have hlt0 := HW.lt
      clear hp hb1 hb2 hb3 hCl hcell0
      have HN := Lib.hid (fun (W : World) (hW : Wr W g A' c' p) (hs : Sl W (some ⟨wr.heap.size, 0, none⟩) 1 (ivs [((ls[k]'hkl).length : Int)])) =>
        wnums_any g A' c' p (some ⟨wr.heap.size, 0, none⟩) 1 1 [((ls[k]'hkl).length : Int)] W hW hs
          (by intro v hv; simp at hv; subst hv; omega) (by intro _ ad h hm; injection h with h; subst h; simp at hm; rcases hm with h | h; omega; have := HW.2.lt h; omega) (by omega) (by omega))
      go_wp2_with (first
        | (go_at_call 59; go_must (refine (HN.out _ (HW.keep ((Only.refl _ _).alloc _)) (Sl.of_bk (Bk.new _ _ _))).mono ?_); rintro e w1 ⟨rfl, A1, c1, HW1, HO1, HB1⟩;
           have HO2 : Only (g :: blks A) w w1 := (HO.alloc _).trans HO1 (by intro x hx; rcases List.mem_cons.1 hx with h | h; exact .inl (by simp [h]); rcases HB x h with h | h; exact .inl (by simp [h]); exact .inr h))
        | (go_at_call 136; go_must (refine (wraw_any g A1 c1 _ Ai _ ci _ w1 HW1 (hrow.only' HO2 (fun hn ad e => HS.out _ (hSr hn ad e))) (by omega) (by rw [List.length_append, HCl.out]; omega)).mono ?_); rintro e w2 ⟨rfl, A2, c2, HW2, HO3, HB2⟩))
      go_roundw
      case rel =>
        refine ⟨k + 1, A2, c2, by omega, by go_num, ?_, ?_, fun x hx => ?_⟩
        · rw [HE.out, ← List.append_assoc, ← List.append_assoc, HP.out, ← HCl.out]
          exact HW2
        · refine HO2.trans HO3 (fun x hx => ?_)
          rcases List.mem_cons.1 hx with h | h
          · exact .inl (by simp [h])
          · rcases HB1 x h with h | h
            · rcases HB x h with h | h
              · exact .inl (by simp [h])
              · exact .inr h
            · exact .inr (by have := HO.size; simp at h; omega)
        · rcases HB2 x hx with h | h
          · rcases HB1 x h with h | h
            · exact HB x h
            · exact .inr (by have := HO.size; simp at h; omega)
          · exact .inr (by have := HO2.size; omega)
      case measure => simp [intOf]; omega
    · obtain rfl : k = n := by omega
      have HT := Lib.hid (show ls.take k = ls from List.take_of_length_le (by omega))
      go_wp2
      go_end0
      rw [HT.out] at HW
      exact ⟨rfl, A', c', HW, HO, HB⟩
end Go.Proofs.YtgnilldcfpgpaaaGreatDoor
