/-
  octet.Writer: its methods.
-/
import Derived.Test.YthaodlegpjedoaaInts
import Derived.Test.YthaodlegpjedoaaLeafs
import Derived.Test.YthaodlegpjedoaaAppNum
import Derived.Test.YthaodlegpjedoaaJoin
import Derived.Deep.RegionHeld3
import Derived.Deep.RegionWith
import Derived.Deep.DrawnRows
namespace Go.Proofs.Ythaodlegpjedoaa
open Go.RowKit
attribute [local go_sem ↓] Go.wp_at_zero Go.wp_at_succ

/-- The Writer in block g holds the bytes l, in the row at A. -/
def Wr (w : World) (g : Nat) (A : Option Addr) (c : Nat) (l : List UInt8) : Prop := Bk w g 72 #[.slice A l.length c] ∧ Own w 5 A l.length c (bvs l)
section
variable {w w' : World} {g : Nat} {A : Option Addr} {c : Nat} {l : List UInt8}
theorem Wr.new (w : World) : Wr (w.alloc (.cells #[.slice none 0 0] 72)) w.heap.size none 0 [] := ⟨Bk.new _ _ _, Own.nil _ _⟩
theorem Wr.only {rs : List Nat} (h : Wr w g A c l) (o : Only rs w w') (hg : g ∉ rs) (hA : ∀ k ∈ blks A, k ∉ rs) : Wr w' g A c l := ⟨h.1.only o hg, h.2.only o hA⟩
theorem Wr.keep (h : Wr w g A c l) (o : Only [] w w') : Wr w' g A c l := h.only o (fun hm => by cases hm) (fun _ _ hm => by cases hm)
theorem Wr.cell (h : Wr w g A c l) : w.cell? ⟨g, 0, none⟩ = some (.slice A l.length c) := by rw [h.1.cell]; rfl
theorem Wr.free (h : Wr w g A c l) : w.frozen? ⟨g, 0, none⟩ = false := h.1.free 0
theorem Wr.ne (h : Wr w g A c l) : g ∉ blks A := h.2.ne h.1 (by decide)
theorem Wr.lt (h : Wr w g A c l) : g < w.heap.size := h.1.lt
/-- The field gets what a call handed back. -/
theorem Wr.set {A' : Option Addr} {c' : Nat} {l' : List UInt8} (h : Bk w g 72 #[.slice A l.length c]) (h' : Own w 5 A' l'.length c' (bvs l')) : Wr (w.setCell ⟨g, 0, none⟩ (.slice A' l'.length c')) g A' c' l' :=
  ⟨by simpa using h.set 0 (.slice A' l'.length c'), h'.setFar (h'.ne h (by decide)) _⟩
end

/-- A method that lays: the Writer holds l; it and its old row alone have turned. -/
def Laid (w : World) (g : Nat) (A : Option Addr) (l : List UInt8) (e : Ending) (w' : World) : Prop :=
  e = .returned (.tuple #[]) ∧ ∃ A' c', Wr w' g A' c' l ∧ Only (g :: blks A) w w' ∧ ∀ k ∈ blks A', k ∈ blks A ∨ w.heap.size ≤ k

/-- Numbers as bytes, one behind the other. -/
def encs (vs : List Int) : List UInt8 := (vs.map (fun v => enc (clamp v))).flatten
theorem encs_nil : encs [] = [] := rfl
theorem encs_snoc (vs : List Int) (v : Int) : encs (vs ++ [v]) = encs vs ++ enc (clamp v) := by simp [encs]
theorem encs_take (vs : List Int) (k : Nat) (h : k < vs.length) : encs (vs.take (k + 1)) = encs (vs.take k) ++ enc (clamp vs[k]) := by
  rw [List.take_succ_eq_append_getElem h, encs_snoc]
def encsLen (vs : List Int) : Nat := (encs vs).length
theorem encsLen_le (vs : List Int) : encsLen vs ≤ 9 * vs.length := by
  unfold encsLen
  induction vs with
  | nil => simp [encs]
  | cons v vs ih =>
    have h9 := enc_len9 (clamp_le v)
    simp only [encs, List.map_cons, List.flatten_cons, List.length_append, List.length_cons] at ih ⊢
    omega
set_option maxHeartbeats 800000 in
set_option maxRecDepth 100000 in
theorem wnums_any (g : Nat) (A : Option Addr) (c : Nat) (l : List UInt8) (V : Option Addr) (n cv : Nat) (vs : List Int) (w : World) (hw : Wr w g A c l) (hv : Sl w V n (ivs vs)) (hf : Fits vs)
    (hd : 0 < n → ∀ ad, V = some ad → ad.block ∉ g :: blks A) (hn : n ≤ 1000000000) (hl : l.length ≤ 1000000000) :
    Calls Try.prog 41 #[.pointer (some ⟨g, 0, none⟩), .slice V n cv] w (Laid w g A (l ++ encs vs)) := by
  have hlen : vs.length = n := by simpa using hv.len
  go_enter Try.func41, Try.ntmps41
  go_wp2
  go_loopw [10] (fun i wr => ∃ (k : Nat) (A' : Option Addr) (c' : Nat), k ≤ n ∧ i = .int .i64 k ∧ Wr wr g A' c' (l ++ encs (vs.take k)) ∧ Only (g :: blks A) w wr ∧ (∀ x ∈ blks A', x ∈ blks A ∨ w.heap.size ≤ x)) (fun i _ => n - (intOf i).toNat)
  case atStart => exact ⟨0, A, c, Nat.zero_le _, rfl, by simpa [encs] using hw, Only.refl _ _, fun x hx => .inl hx⟩
  case round =>
    obtain ⟨k, A', c', hk, rfl, HW, HO, HB⟩ := hrel
    by_cases hlt : k < n
    · obtain ⟨ad, u, rfl, hu, hcell⟩ := (hv.only' HO hd).at_ hlt
      rw [ivs_get _ _ (by omega)] at hu
      obtain rfl : Value.int .i64 _ = u := by injection hu
      obtain ⟨f1, f2⟩ := hf.at_ k (by omega)
      have HE := Lib.hid (encs_take vs k (by omega))
      have hbig : (l ++ encs (vs.take k)).length ≤ 1099511627776 := by
        have h := encsLen_le (vs.take k)
        rw [List.length_take] at h
        unfold encsLen at h
        rw [List.length_append]
        omega
      have hc0 := HW.cell
      have hlt0 := HW.lt
      generalize hp : l ++ encs (vs.take k) = p at *
      have HP := Lib.hid hp
      have hcl := clamp_le (vs[k]'(by omega))
      clear hu hp
      go_wp2
      go_region_with (first | (go_at_call 74; refine (within_any _ _ f1 f2).mono ?_; rintro e w' ⟨rfl, rfl⟩) | (go_at_call 73; refine (appendNumber_any A' p.length c' p (clamp (vs[k]'(by omega))) _ rfl (by exact HW.2.drew) hbig hcl).mono ?_; rintro e w' ⟨A2, c2, rfl, HV2, HO2, HB2⟩; have HC2 := HO2.cellSome (p := ⟨g, 0, none⟩) hc0 HW.ne; have HF2 := (HO2.frozen (p := ⟨g, 0, none⟩) hlt0 HW.ne).trans HW.free; have HK2 := HW.1.drew.only HO2 HW.ne))
      all_goals try go_wp2
      all_goals
        go_roundw
        case rel =>
          have hpl : (p ++ enc (clamp (vs[k]'(by omega)))).length = p.length + (enc (clamp (vs[k]'(by omega)))).length := List.length_append
          refine ⟨k + 1, A2, c2, by omega, by go_num, ?_, ?_, fun x hx => ?_⟩
          · rw [HE.out, ← List.append_assoc, HP.out]
            have hs := Wr.set HK2 HV2
            rw [hpl] at hs
            exact hs
          · refine (HO.trans (by exact ⟨HO2.os, HO2.tape, HO2.output, HO2.size, HO2.block⟩ : Only (blks A') wr _) (fun x hx => by rcases HB x hx with h | h; exact .inl (List.mem_cons_of_mem _ h); exact .inr h)).setCell (.inl (by simp)) _
          · rcases HB2 x hx with h | h
            · exact HB x h
            · exact .inr (by have := HO.size; simp at h; omega)
        case measure => simp [intOf]; omega
    · obtain rfl : k = n := by omega
      have HT := Lib.hid (show vs.take k = vs from List.take_of_length_le (by omega))
      go_wp2
      go_end0
      rw [HT.out] at HW
      exact ⟨rfl, A', c', HW, HO, HB⟩
end Go.Proofs.Ythaodlegpjedoaa
