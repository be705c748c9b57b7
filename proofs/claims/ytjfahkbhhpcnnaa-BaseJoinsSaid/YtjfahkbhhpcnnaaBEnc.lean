/-
  base's Encode.
-/
import Derived.Test.YtjfahkbhhpcnnaaBLeaf
import Derived.Test.YtjfahkbhhpcnnaaStr
import Derived.Test.YtjfahkbhhpcnnaaGoto
import Derived.WalkKit
import Derived.Handy
import Derived.Deep.DeepMust
import Derived.WalkLawsBesides
import Derived.ScopeJumps
import Derived.WalkMore
import Derived.IntWalk
namespace Go.Proofs.Ytjfahkbhhpcnnaa
open Go.RowKit

def intoS : Value → Nat | .slice _ n _ => n | _ => 0
def EncJ (w : World) (b : List UInt8) (a' : Act) (w' : World) : Prop :=
  ∃ (A : Option Addr) (n c : Nat) (A2 : Option Addr) (n2 c2 : Nat) (l o : List UInt8), ∃ (u1 u2 u4 u5 u6 u7 u8 u9 u10 u11 u12 u13 u14 u15 u16 u17 u18 u19 u20 u21 u22 u23 u24 u25 u26 u27 u28 u29 u30 u31 u32 u33 u34 u35 u36 u37 u38 u39 u40 u41 u42 u43 u44 u45 u46 u47 u48 u49 u50 u51 u52 u53 u54 u55 u56 u57 u58 : Value), a' = { tmps := #[.slice A n c, u1, u2, .slice A2 n2 c2, u4, u5, u6, u7, u8, u9, u10, u11, u12, u13, u14, u15, u16, u17, u18, u19, u20, u21, u22, u23, u24, u25, u26, u27, u28, u29, u30, u31, u32, u33, u34, u35, u36, u37, u38, u39, u40, u41, u42, u43, u44, u45, u46, u47, u48, u49, u50, u51, u52, u53, u54, u55, u56, u57, u58], defers := [] } ∧
    Sl w A n (bvs l) ∧ n ≤ c ∧ Own w' 5 A2 n2 c2 (bvs o) ∧ o.length = n2 ∧ Hid (o ++ enc64 l = enc64 b) ∧ Only [] w w' ∧ ∀ k ∈ blks A2, w.heap.size ≤ k

/-- The same, where the answer and its length have names. -/
def GrewN (w : World) (A : Option Addr) (m : Nat) (q : List UInt8) (e : Ending) (w' : World) : Prop :=
  ∃ A' c', e = .returned (.slice A' m c') ∧ Own w' 5 A' m c' (bvs q) ∧ Only (blks A) w w' ∧ (∀ k ∈ blks A', k ∈ blks A ∨ w.heap.size ≤ k) ∧ m ≤ c'
theorem append_n (x y z : UInt8) (X Y Z : Int) (A : Option Addr) (n c m : Nat) (l q : List UInt8) (w : World) (hown : Own w 5 A n c (bvs l)) (hX : X = (x.toNat : Int)) (hY : Y = (y.toNat : Int)) (hZ : Z = (z.toNat : Int)) (hn : n ≤ 1099511627776) (hm : n + 4 = m) (hq : l ++ [l0 x, l1 x y, l2 y z, l3 z] = q) :
    Calls Try.prog 17 #[.slice A n c, .int .u8 X, .int .u8 Y, .int .u8 Z] w (GrewN w A m q) := by
  subst hX hY hZ
  have hl : l.length = n := by have := hown.len; rw [bvs_length] at this; exact this
  refine (appendLetters_any A n c l x y z w hl hown hn).mono fun e w' he => ?_
  obtain ⟨A', c', h1, h2, h3, h4⟩ := he
  have e : (l ++ [l0 x, l1 x y, l2 y z, l3 z]).length = m := by rw [List.length_append, hl, ← hm]; rfl
  rw [e] at h1 h2
  rw [hq] at h2
  exact ⟨A', c', h1, h2, h3, h4, h2.cap⟩
theorem cell_of {w : World} {A : Option Addr} {n : Nat} {xs : List Value} (h : Sl w A n xs) (hn : 0 < n) : ∃ b o p, A = some ⟨b, o, p⟩ ∧ ∀ j u, xs[j]? = some u → w.cell? ((⟨b, o, p⟩ : Addr).add j) = some u := by
  obtain ⟨⟨b, o, p⟩, e, hc⟩ := h.2 hn
  exact ⟨b, o, p, e, hc⟩

set_option maxRecDepth 100000 in
theorem Encode_any (A : Option Addr) (n c : Nat) (b : List UInt8) (w : World) (hb : Sl w A n (bvs b)) (hc : n ≤ c) (hn : n ≤ 1048576) :
    Calls Try.prog 11 #[.slice A n c] w fun e w' => e = .returned (.string (St (enc64 b))) ∧ Only [] w w' := by
  obtain ⟨i0, hi, hz0, hz1, hz2⟩ := info_parts infoByte
  obtain ⟨w1, hmk, HV1, HO1⟩ := run_make_sl (P := Try.prog) (w := w) 22 5 i0 (.int .u8 0) Try.underlying22 hi hz0 hz1 .i64 .i64 ((n + 2) / 3 * 4) (by rw [hz2]; omega) (by unfold maxLen; omega)
  have e1 : (((n + 2) / 3 * 4 : Nat) : Int) = ((n : Int) + 3 - 1) / 3 * 4 := by omega
  rw [e1] at hmk
  have HBL : Hid (b.length = n) := by have := hb.len; rw [bvs_length] at this; exact this
  have HN : Hid (∀ (l o : List UInt8), o ++ enc64 l = enc64 b → o.length ≤ 1400000 ∧ l.length ≤ 1400000) := fun l o h => by
    have h1 := congrArg List.length h
    rw [List.length_append, enc_length, enc_length, HBL.out] at h1
    omega
  clear e1
  go_enter Try.func11, Try.ntmps11
  go_wp2_with fail
  refine wp_scope_back 0 (EncJ w b) (fun a' _ => intoS (a'.tmps.getD 0 undef)) rfl ?pass ?first
  case first =>
    intro pass
    go_wp2_with fail
    rename_i hK
    refine wp_label (hK _ _ (pass _ _ ?_))
    exact ⟨A, n, c, some ⟨w.heap.size, 0, none⟩, 0, _, b, [], _, _, _, _, _, _, _, _, _, _, _, _, _, _, _, _, _, _, _, _, _, _, _, _, _, _, _, _, _, _, _, _, _, _, _, _, _, _, _, _, _, _, _, _, _, _, _, _, _, _, _, _, _, _, _, _, _, rfl, hb, hc, HV1, rfl, rfl, HO1, fun k hk => by simp at hk; omega⟩
  case pass =>
    clear hmk HV1 HO1 hb HBL
    rintro a' w' ⟨A, n, c, A2, n2, c2, l, o, u1, u2, u4, u5, u6, u7, u8, u9, u10, u11, u12, u13, u14, u15, u16, u17, u18, u19, u20, u21, u22, u23, u24, u25, u26, u27, u28, u29, u30, u31, u32, u33, u34, u35, u36, u37, u38, u39, u40, u41, u42, u43, u44, u45, u46, u47, u48, u49, u50, u51, u52, u53, u54, u55, u56, u57, u58, rfl, hs, hc, HV, hl, HE, HO, HB⟩
    have hbd := HN.out l o HE.out
    have hlen : Hid (l.length = n) := by have := hs.len; rw [bvs_length] at this; exact this
    match l, hlen with
    | [], hlen =>
      obtain rfl : n = 0 := hlen.out.symm
      have hcv := run_str_sl (P := Try.prog) 22 9 5 A2 n2 c2 o Try.underlying22 Try.underlying5 Try.underlying9 HV.sl
      go_wp2_with fail
      simp only [Exit.jump]
      go_ret
      exact ⟨by rw [← HE.out]; simp [enc64], HO⟩
    | [x], hlen =>
      obtain rfl : n = 1 := hlen.out.symm
      obtain ⟨ad, rfl, hcell⟩ := (hs.keep HO).2 (by omega)
      have c0 : w'.cell? ad = some (.int .u8 (x.toNat : Int)) := by have := hcell 0 (bv x) rfl; rwa [add_zero] at this
      obtain ⟨q, hq⟩ : ∃ q, o ++ [l0 x, l1 x 0, l2 0 0, l3 0] = q := ⟨_, rfl⟩
      obtain ⟨m, hm⟩ : ∃ m, n2 + 4 = m := ⟨_, rfl⟩
      have hr := append_n x 0 0 _ 0 0 A2 n2 c2 m o q w' HV rfl rfl rfl (by omega) hm hq
      have hn2 : n2 ≤ 1400000 := by omega
      have HT : Hid ((bvs q).take (n2 + 2) ++ bvs [61, 61] = bvs (enc64 b)) := by
        show _ = _
        rw [← HE.out, ← hq, bvs_append, List.take_append, ← hl]
        simp [bvs, enc64, List.take_of_length_le]
      have HR := Lib.hid hr
      have HM := Lib.hid hm
      clear hr hm hq hl hcell
      have h0 : (0 : Int) < ((1 : Nat) : Int) := by omega
      go_wp2_with (first
        | (go_at_call 17; refine HR.out.mono ?_; rintro e w3 ⟨A3, c3, rfl, HV3, HO3, HB3, hc3⟩; clear HR; have hc4 : n2 + 2 ≤ c3 := by (have := HM.out; omega))
        | (at_builtin; go_must (refine wpList_append_str rfl (.tmp 27) (.const (.string ⟨#[61, 61]⟩)) 22 9 rfl 5 i0 Try.underlying22 Try.underlying9 hi hz0 hz1 hz2 A3 (n2 + 2) c3 ((bvs q).take (n2 + 2)) rfl (HV3.pre (by have := HM.out; omega)) _ rfl (by show n2 + 2 + 2 ≤ _; omega) ?_); intro A4 c4 w4 HV4 HO4; have hcv := run_str_sl (P := Try.prog) 22 9 5 A4 (n2 + 2 + 2) c4 (enc64 b) Try.underlying22 Try.underlying5 Try.underlying9 (by rw [← HT.out]; exact HV4.sl)))
      simp only [Exit.jump]
      go_ret
      exact ⟨rfl, (HO.trans HO3 (fun k hk => .inr (HB k hk))).trans HO4 (fun k hk => .inr (by rcases HB3 k hk with h | h; exact HB k h; have := HO.size; omega))⟩
    | [x, y], hlen =>
      obtain rfl : n = 2 := hlen.out.symm
      obtain ⟨ad, rfl, hcell⟩ := hs.2 (by omega)
      obtain ⟨q, hq⟩ : ∃ q, o ++ [l0 x, l1 x y, l2 y 0, l3 0] = q := ⟨_, rfl⟩
      obtain ⟨m, hm⟩ : ∃ m, n2 + 4 = m := ⟨_, rfl⟩
      have hn2 : n2 ≤ 1400000 := by omega
      have HT : Hid ((bvs q).take (n2 + 3) ++ bvs [61] = bvs (enc64 b)) := by
        show _ = _
        rw [← HE.out, ← hq, bvs_append, List.take_append, ← hl]
        simp [bvs, enc64, List.take_of_length_le]
      have HC : Hid (∀ W, Only [] w'.drew W → W.cell? ad = some (.int .u8 (x.toNat : Int)) ∧ W.cell? ⟨ad.block, ad.off + 1, none⟩ = some (.int .u8 (y.toNat : Int))) := fun W hW => by
        have h0 := hcell 0 (bv x) rfl
        have h1 := hcell 1 (bv y) rfl
        rw [add_zero] at h0
        exact ⟨(HO.drew.then hW).cellSome h0 (by simp), (HO.drew.then hW).cellSome h1 (by simp)⟩
      have HR : Hid (∀ W, Only [] w'.drew W → Calls Try.prog 17 #[.slice A2 n2 c2, .int .u8 (x.toNat : Int), .int .u8 (y.toNat : Int), .int .u8 0] W (GrewN W A2 m q)) := fun W hW =>
        append_n x y 0 _ _ 0 A2 n2 c2 m o q W (HV.drew.keep hW) rfl rfl rfl (by omega) hm hq
      have HM := Lib.hid hm
      clear hm hq hl hcell
      have h0 : (0 : Int) < ((2 : Nat) : Int) := by omega
      have h1 : (1 : Int) < ((2 : Nat) : Int) := by omega
      go_wp2_with fail
      apply region_writes (rs := blks A2) (Ws := [7, 12]) (by kernel_rfl) (by kernel_rfl)
      apply rel_val (hrf := Tk_refl)
      case hw => rfl
      case hy => intro wS hN hF; skip; first | (go_simp; done) | (go_simp; with_reducible rfl)
      case' hk => skip
      try simp only [Act.put, List.setIfInBounds_toArray, List.set_cons_zero, List.set_cons_succ]
      apply rel_val (hrf := Tk_refl)
      case hw => rfl
      case hy => intro wS hN hF; skip; first | (go_simp; done) | (go_simp; with_reducible rfl)
      case' hk => skip
      try simp only [Act.put, List.setIfInBounds_toArray, List.set_cons_zero, List.set_cons_succ]
      apply rel_val (hrf := Tk_refl)
      case hw => rfl
      case hy => intro wS hN hF; have hc := (HC.out wS (hN.pre (by kernel_rfl))).1; first | (go_simp; done) | (go_simp; with_reducible rfl)
      case' hk => skip
      try simp only [Act.put, List.setIfInBounds_toArray, List.set_cons_zero, List.set_cons_succ]
      apply rel_val (hrf := Tk_refl)
      case hw => rfl
      case hy => intro wS hN hF; have hc := (HC.out wS (hN.pre (by kernel_rfl))).1; first | (go_simp; done) | (go_simp; with_reducible rfl)
      case' hk => skip
      try simp only [Act.put, List.setIfInBounds_toArray, List.set_cons_zero, List.set_cons_succ]
      apply rel_val (hrf := Tk_refl)
      case hw => rfl
      case hy => intro wS hN hF; skip; first | (go_simp; done) | (go_simp; with_reducible rfl)
      case' hk => skip
      try simp only [Act.put, List.setIfInBounds_toArray, List.set_cons_zero, List.set_cons_succ]
      apply rel_val (hrf := Tk_refl)
      case hw => rfl
      case hy => intro wS hN hF; have hc := (HC.out wS (hN.pre (by kernel_rfl))).2; first | (go_simp; done) | (go_simp; with_reducible rfl)
      case' hk => skip
      try simp only [Act.put, List.setIfInBounds_toArray, List.set_cons_zero, List.set_cons_succ]
      apply rel_val (hrf := Tk_refl)
      case hw => rfl
      case hy => intro wS hN hF; have hc := (HC.out wS (hN.pre (by kernel_rfl))).2; first | (go_simp; done) | (go_simp; with_reducible rfl)
      case' hk => skip
      try simp only [Act.put, List.setIfInBounds_toArray, List.set_cons_zero, List.set_cons_succ]
      apply rel_fact_call (φ := fun v W => ∃ A' c', v = .slice A' m c' ∧ Own W 5 A' m c' (bvs q) ∧ (∀ k ∈ blks A', k ∈ blks A2 ∨ w'.heap.size ≤ k) ∧ m ≤ c') (x := 12) (hs := lasts0 (by kernel_rfl) (fun v W W' h ho => by obtain ⟨A', c', h1, h2, h3⟩ := h; exact ⟨A', c', h1, h2.keep ho, h3⟩))
      case hw => rfl
      case hc =>
        intro wS hN hF
        have hO := hN.pre (by kernel_rfl)
        refine ⟨17, #[.slice A2 n2 c2, .int .u8 (x.toNat : Int), .int .u8 (y.toNat : Int), .int .u8 0], by go_simp, (HR.out wS hO).mono ?_⟩
        rintro e w3 ⟨A3, c3, rfl, HV3, HO3, HB3, hc3⟩
        exact ⟨_, rfl, ⟨A3, c3, rfl, HV3, fun k hk => (HB3 k hk).imp id (fun h => by have := hO.size; simp at this; omega), hc3⟩, Tk_writes rfl HO3 (fun _ h => .inl h)⟩
      case' hk => intro v7
      try simp only [Act.put, List.setIfInBounds_toArray, List.set_cons_zero, List.set_cons_succ]
      apply rel_val (hrf := Tk_refl)
      case hw => rfl
      case hy => intro wS hN hF; skip; first | (go_simp; done) | (go_simp; with_reducible rfl)
      case' hk => skip
      try simp only [Act.put, List.setIfInBounds_toArray, List.set_cons_zero, List.set_cons_succ]
      apply rel_val (hrf := Tk_refl)
      case hw => rfl
      case hy => intro wS hN hF; skip; first | (go_simp; done) | (go_simp; with_reducible rfl)
      case' hk => skip
      try simp only [Act.put, List.setIfInBounds_toArray, List.set_cons_zero, List.set_cons_succ]
      apply rel_val (v := .int .i64 ((n2 : Int) + 3)) (hrf := Tk_refl)
      case hw => rfl
      case hy =>
        intro wS hN hF
        go_simp; exact IntWalk.i64_in _ (by omega)
      case' hk => skip
      try simp only [Act.put, List.setIfInBounds_toArray, List.set_cons_zero, List.set_cons_succ]
      apply rel_fact (φ := fun v W => ∃ A' c', v = .slice A' (n2 + 3) c' ∧ Own W 5 A' (n2 + 3) c' ((bvs q).take (n2 + 3)) ∧ ∀ k ∈ blks A', k ∈ blks A2 ∨ w'.heap.size ≤ k) (x := 12) (hs := lasts0 (by kernel_rfl) (fun v W W' h ho => by obtain ⟨A', c', h1, h2, h3⟩ := h; exact ⟨A', c', h1, h2.keep ho, h3⟩))
      case hw => rfl
      case hy =>
        intro wS hN hF
        obtain ⟨A3, c3, rfl, HV3, HB3, hc3⟩ := hF.at_ 0 rfl (by kernel_rfl) (by kernel_rfl)
        have hm4 := HM.out
        have hc4 : n2 + 3 ≤ c3 := by omega
        refine gives_value (u := .slice A3 (n2 + 3) c3) (w' := wS) ?_ ⟨A3, c3, rfl, HV3.pre (by omega), HB3⟩ (Tk_refl _)
        have hc5 : (n2 : Int) + 3 ≤ (c3 : Int) := by omega
        have hc6 : (0 : Int) ≤ (n2 : Int) + 3 := by omega
        clear hm4
        go_simp
        omega
      case' hk => intro v11
      try simp only [Act.put, List.setIfInBounds_toArray, List.set_cons_zero, List.set_cons_succ]
      apply rel_fact (φ := fun v W => ∃ A' c', v = .slice A' (n2 + 3 + 1) c' ∧ Own W 5 A' (n2 + 3 + 1) c' (bvs (enc64 b))) (x := 9999) (hs := lasts0 (by kernel_rfl) (fun v W W' h ho => by obtain ⟨A', c', h1, h2⟩ := h; exact ⟨A', c', h1, h2.keep ho⟩))
      case hw => rfl
      case hy =>
        intro wS hN hF
        obtain ⟨A3, c3, rfl, HV3, HB3⟩ := hF.at_ 0 rfl (by kernel_rfl) (by kernel_rfl)
        exact gives_append_str (.tmp 43) (.const (.string ⟨#[61]⟩)) 22 9 rfl 5 i0 Try.underlying22 Try.underlying9 hi hz0 hz1 hz2 A3 (n2 + 3) c3 ((bvs q).take (n2 + 3)) rfl HV3 _ rfl (by show n2 + 3 + 1 ≤ _; omega) fun A4 c4 w4 HV4 HO4 => ⟨⟨A4, c4, rfl, by rw [← HT.out]; exact HV4⟩, Tk_writes rfl HO4 HB3⟩
      case' hk => intro v12
      try simp only [Act.put, List.setIfInBounds_toArray, List.set_cons_zero, List.set_cons_succ]
      apply rel_val (v := .string (St (enc64 b))) (hrf := Tk_refl)
      case hw => rfl
      case hy =>
        intro wS hN hF
        obtain ⟨A4, c4, rfl, HV4⟩ := hF.at_ 0 rfl (by kernel_rfl) (by kernel_rfl)
        have hcv := run_str_sl (P := Try.prog) 22 9 5 A4 (n2 + 3 + 1) c4 (enc64 b) Try.underlying22 Try.underlying5 Try.underlying9 HV4.sl
        go_simp
      case' hk => skip
      try simp only [Act.put, List.setIfInBounds_toArray, List.set_cons_zero, List.set_cons_succ]
      apply rel_val (hrf := Tk_refl)
      case hw => rfl
      case hy => intro wS hN hF; skip; first | (go_simp; done) | (go_simp; with_reducible rfl)
      case' hk => skip
      try simp only [Act.put, List.setIfInBounds_toArray, List.set_cons_zero, List.set_cons_succ]
      refine rel_end ?_
      intro wS hO hF
      clear hF
      go_wp2
      simp only [Exit.jump]
      go_ret
      exact ⟨rfl, HO.drew.trans hO.only (fun k hk => .inr (HB k hk))⟩
    | x :: y :: z :: r, hlen =>
      have hn3 : 3 ≤ n := by have := hlen.out; simp only [List.length_cons] at this; omega
      obtain ⟨ad, rfl, hcell⟩ := hs.2 (by omega)
      obtain ⟨q, hq⟩ : ∃ q, o ++ [l0 x, l1 x y, l2 y z, l3 z] = q := ⟨_, rfl⟩
      obtain ⟨m, hm⟩ : ∃ m, n2 + 4 = m := ⟨_, rfl⟩
      have hn2 : n2 ≤ 1400000 := by omega
      have HC : Hid (∀ W, Only [] w'.drew W → W.cell? ad = some (.int .u8 (x.toNat : Int)) ∧ W.cell? ⟨ad.block, ad.off + 1, none⟩ = some (.int .u8 (y.toNat : Int)) ∧ W.cell? ⟨ad.block, ad.off + 2, none⟩ = some (.int .u8 (z.toNat : Int))) := fun W hW => by
        have h0 := hcell 0 (bv x) rfl
        have h1 := hcell 1 (bv y) rfl
        have h2 := hcell 2 (bv z) rfl
        rw [add_zero] at h0
        exact ⟨(HO.drew.then hW).cellSome h0 (by simp), (HO.drew.then hW).cellSome h1 (by simp), (HO.drew.then hW).cellSome h2 (by simp)⟩
      have HR : Hid (∀ W, Only [] w'.drew W → Calls Try.prog 17 #[.slice A2 n2 c2, .int .u8 (x.toNat : Int), .int .u8 (y.toNat : Int), .int .u8 (z.toNat : Int)] W (GrewN W A2 m q)) := fun W hW =>
        append_n x y z _ _ _ A2 n2 c2 m o q W (HV.drew.keep hW) rfl rfl rfl (by omega) hm hq
      have HQ : Hid (q ++ enc64 r = enc64 b ∧ q.length = m) := by
        refine ⟨?_, ?_⟩
        · rw [← HE.out, ← hq]; simp [enc64]
        · rw [← hq, ← hm, List.length_append, hl]; rfl
      have HS3 := Lib.hid (hs.cut hn3 hc)
      clear hm hq hl hcell
      have j0_ : 0 < n := by omega
      have j1_ : 1 < n := by omega
      have j2_ : 2 < n := by omega
      have i0_ : (0 : Int) < (n : Int) := by omega
      have i1_ : (1 : Int) < (n : Int) := by omega
      have i2_ : (2 : Int) < (n : Int) := by omega
      have i3_ : (3 : Int) ≤ (n : Int) := by omega
      have z0 : ((n : Int) == 0) = false := by simp; omega
      have z1 : ((n : Int) == 1) = false := by simp; omega
      have z2 : ((n : Int) == 2) = false := by simp; omega
      go_wp2_with fail
      apply region_writes (rs := blks A2) (Ws := [10]) (by kernel_rfl) (by kernel_rfl)
      apply rel_val (hrf := Tk_refl)
      case hw => rfl
      case hy => intro wS hN hF; skip; first | (go_simp; done) | (go_simp; with_reducible rfl)
      case' hk => skip
      try simp only [Act.put, List.setIfInBounds_toArray, List.set_cons_zero, List.set_cons_succ]
      apply rel_val (hrf := Tk_refl)
      case hw => rfl
      case hy => intro wS hN hF; skip; first | (go_simp; done) | (go_simp; with_reducible rfl)
      case' hk => skip
      try simp only [Act.put, List.setIfInBounds_toArray, List.set_cons_zero, List.set_cons_succ]
      apply rel_val (hrf := Tk_refl)
      case hw => rfl
      case hy => intro wS hN hF; have hc := (HC.out wS (hN.pre (by kernel_rfl))).1; first | (go_simp; done) | (go_simp; with_reducible rfl)
      case' hk => skip
      try simp only [Act.put, List.setIfInBounds_toArray, List.set_cons_zero, List.set_cons_succ]
      apply rel_val (hrf := Tk_refl)
      case hw => rfl
      case hy => intro wS hN hF; have hc := (HC.out wS (hN.pre (by kernel_rfl))).1; first | (go_simp; done) | (go_simp; with_reducible rfl)
      case' hk => skip
      try simp only [Act.put, List.setIfInBounds_toArray, List.set_cons_zero, List.set_cons_succ]
      apply rel_val (hrf := Tk_refl)
      case hw => rfl
      case hy => intro wS hN hF; skip; first | (go_simp; done) | (go_simp; with_reducible rfl)
      case' hk => skip
      try simp only [Act.put, List.setIfInBounds_toArray, List.set_cons_zero, List.set_cons_succ]
      apply rel_val (hrf := Tk_refl)
      case hw => rfl
      case hy => intro wS hN hF; have hc := (HC.out wS (hN.pre (by kernel_rfl))).2.1; first | (go_simp; done) | (go_simp; with_reducible rfl)
      case' hk => skip
      try simp only [Act.put, List.setIfInBounds_toArray, List.set_cons_zero, List.set_cons_succ]
      apply rel_val (hrf := Tk_refl)
      case hw => rfl
      case hy => intro wS hN hF; have hc := (HC.out wS (hN.pre (by kernel_rfl))).2.1; first | (go_simp; done) | (go_simp; with_reducible rfl)
      case' hk => skip
      try simp only [Act.put, List.setIfInBounds_toArray, List.set_cons_zero, List.set_cons_succ]
      apply rel_val (hrf := Tk_refl)
      case hw => rfl
      case hy => intro wS hN hF; skip; first | (go_simp; done) | (go_simp; with_reducible rfl)
      case' hk => skip
      try simp only [Act.put, List.setIfInBounds_toArray, List.set_cons_zero, List.set_cons_succ]
      apply rel_val (hrf := Tk_refl)
      case hw => rfl
      case hy => intro wS hN hF; have hc := (HC.out wS (hN.pre (by kernel_rfl))).2.2; first | (go_simp; done) | (go_simp; with_reducible rfl)
      case' hk => skip
      try simp only [Act.put, List.setIfInBounds_toArray, List.set_cons_zero, List.set_cons_succ]
      apply rel_val (hrf := Tk_refl)
      case hw => rfl
      case hy => intro wS hN hF; have hc := (HC.out wS (hN.pre (by kernel_rfl))).2.2; first | (go_simp; done) | (go_simp; with_reducible rfl)
      case' hk => skip
      try simp only [Act.put, List.setIfInBounds_toArray, List.set_cons_zero, List.set_cons_succ]
      apply rel_fact_call (φ := fun v W => ∃ A' c', v = .slice A' m c' ∧ Own W 5 A' m c' (bvs q) ∧ ∀ k ∈ blks A', k ∈ blks A2 ∨ w'.heap.size ≤ k) (x := 9999) (hs := lasts0 (by kernel_rfl) (fun v W W' h ho => by obtain ⟨A', c', h1, h2, h3⟩ := h; exact ⟨A', c', h1, h2.keep ho, h3⟩))
      case hw => rfl
      case hc =>
        intro wS hN hF
        have hO := hN.pre (by kernel_rfl)
        refine ⟨17, #[.slice A2 n2 c2, .int .u8 (x.toNat : Int), .int .u8 (y.toNat : Int), .int .u8 (z.toNat : Int)], by go_simp, (HR.out wS hO).mono ?_⟩
        rintro e w3 ⟨A3, c3, rfl, HV3, HO3, HB3, _⟩
        exact ⟨_, rfl, ⟨A3, c3, rfl, HV3, fun k hk => (HB3 k hk).imp id (fun h => by have := hO.size; simp at this; omega)⟩, Tk_writes rfl HO3 (fun _ h => .inl h)⟩
      case' hk => intro v10
      try simp only [Act.put, List.setIfInBounds_toArray, List.set_cons_zero, List.set_cons_succ]
      apply rel_fact (φ := fun v W => ∃ A' c', v = .slice A' m c' ∧ Own W 5 A' m c' (bvs q) ∧ ∀ k ∈ blks A', k ∈ blks A2 ∨ w'.heap.size ≤ k) (x := 9999) (hs := lasts0 (by kernel_rfl) (fun v W W' h ho => by obtain ⟨A', c', h1, h2, h3⟩ := h; exact ⟨A', c', h1, h2.keep ho, h3⟩))
      case hw => rfl
      case hy =>
        intro wS hN hF
        have h := hF.at_ 0 rfl (by kernel_rfl) (by kernel_rfl)
        refine gives_value (u := v10) (w' := wS) ?_ h (Tk_refl _)
        go_simp
      case' hk => intro v11
      try simp only [Act.put, List.setIfInBounds_toArray, List.set_cons_zero, List.set_cons_succ]
      refine rel_end ?_
      intro wS hO hF
      obtain ⟨A3, c3, rfl, HV3, HB3⟩ := facts_at hF 0 rfl
      clear hF
      by_cases hc3 : c = 3
      all_goals
        go_wp2
        go_step3
        have hs3 := HS3.out
        simp only [hc3, if_true, if_false] at hs3
        refine (And.intro rfl (And.intro (show EncJ _ _ _ _ from ⟨_, _, _, A3, m, c3, r, q, _, _, _, _, _, _, _, _, _, _, _, _, _, _, _, _, _, _, _, _, _, _, _, _, _, _, _, _, _, _, _, _, _, _, _, _, _, _, _, _, _, _, _, _, _, _, _, _, _, _, _, _, _, _, _, _, _, rfl, hs3, by omega, HV3, HQ.out.2, HQ.out.1, HO.drew.trans hO.only (fun k hk => .inr (HB k hk)), fun k hk => by rcases HB3 k hk with h | h; exact HB k h; have := HO.size; omega⟩) ?_))
        simp [intoS]
        omega
end Go.Proofs.Ytjfahkbhhpcnnaa
