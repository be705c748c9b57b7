/-
  The laws' message of parts.
-/
import Derived.Test.YtakehogenioobaaDoorMConv
import Derived.Test.YtakehogenioobaaDoorRelS
namespace Go.Proofs.YtakehogenioobaaDoor
open Go.RowKit Go.Instr

/-- The message, piece by piece. -/
def hp (l : List UInt8) (z : Bool) : List UInt8 := hdO (vMsg kdN (qOf l z)) ++ [13, 10, 13, 10] ++ pmN ++ [13, 10]
def sg (l p : List UInt8) : List UInt8 := mk l ++ [13, 10] ++ p ++ [13, 10]
def segs (l : List UInt8) (ls : List (List UInt8)) : List UInt8 := (ls.map (sg l)).flatten
def mend (l : List UInt8) : List UInt8 := mk l ++ [45, 45, 13, 10] ++ bhN
theorem tail_eq (l : List UInt8) : ∀ ls, tailOf l ls = segs l ls ++ mend l
  | [] => by simp [tailOf, segs, mend]
  | p :: r => by
    rw [tailOf, tail_eq l r]
    simp [segs, sg]
theorem msg_eq (l : List UInt8) (z : Bool) (ls : List (List UInt8)) : msg l z ls = hp l z ++ segs l ls ++ mend l := by
  unfold msg oneH hp
  rw [tail_eq]
  simp
theorem segs_take (l : List UInt8) {ls : List (List UInt8)} {k : Nat} (h : k < ls.length) : segs l (ls.take (k + 1)) = segs l (ls.take k) ++ sg l ls[k] := by
  unfold segs
  rw [List.take_succ_eq_append_getElem h, List.map_append, List.flatten_append]
  simp
theorem segs_le (l : List UInt8) (ls : List (List UInt8)) (k : Nat) : (segs l (ls.take k)).length ≤ (segs l ls).length := by
  conv => rhs; rw [← List.take_append_drop k ls]
  unfold segs
  rw [List.map_append, List.flatten_append, List.length_append]
  omega
theorem sl_two {w : World} {g : Nat} {t : TypeId} (h : Bk w g t #[.int .u8 13, .int .u8 10]) : Sl w (some ⟨g, 0, none⟩) 2 (bvs [13, 10]) :=
  ⟨rfl, fun _ => ⟨_, rfl, fun j u hu => by
    rw [add_none, Nat.zero_add, h.cell]
    simpa [bvs, bv] using hu⟩⟩
theorem head_sums (q : ByteArray) (hq : q.size ≤ 40) : ∃ a1 a2 : ByteArray, (∀ W, (Op.stringOp .add ⟨#[67, 111, 110, 116, 101, 110, 116, 45, 84, 121, 112, 101, 58, 32, 77, 117, 108, 116, 105, 112, 97, 114, 116, 47, 77, 105, 120, 101, 100, 59, 32, 98, 111, 117, 110, 100, 97, 114, 121, 61]⟩ q).run Tryd.prog W = .ok (.string a1) W) ∧ (∀ W, (Op.stringOp .add a1 ⟨#[13, 10, 13, 10, 112, 114, 101, 97, 109, 98, 108, 101, 13, 10]⟩).run Tryd.prog W = .ok (.string a2) W) ∧ a2.size ≤ 100 ∧ a2.data.toList = hdO (vMsg kdN q.data.toList) ++ [13, 10, 13, 10] ++ pmN ++ [13, 10] := by
  have z1 : (ByteArray.mk #[67, 111, 110, 116, 101, 110, 116, 45, 84, 121, 112, 101, 58, 32, 77, 117, 108, 116, 105, 112, 97, 114, 116, 47, 77, 105, 120, 101, 100, 59, 32, 98, 111, 117, 110, 100, 97, 114, 121, 61]).size = 40 := rfl
  have z2 : (ByteArray.mk #[13, 10, 13, 10, 112, 114, 101, 97, 109, 98, 108, 101, 13, 10]).size = 14 := rfl
  obtain ⟨a1, l1, n1, e1⟩ := add_eq ⟨#[67, 111, 110, 116, 101, 110, 116, 45, 84, 121, 112, 101, 58, 32, 77, 117, 108, 116, 105, 112, 97, 114, 116, 47, 77, 105, 120, 101, 100, 59, 32, 98, 111, 117, 110, 100, 97, 114, 121, 61]⟩ q (by omega)
  obtain ⟨a2, l2, n2, e2⟩ := add_eq a1 ⟨#[13, 10, 13, 10, 112, 114, 101, 97, 109, 98, 108, 101, 13, 10]⟩ (by omega)
  refine ⟨a1, a2, e1, e2, by omega, ?_⟩
  rw [l2, l1]
  simp [hdO, vMsg, ctN, kdN, bdN, pmN]
theorem quote_sums (b : ByteArray) (hb : b.size ≤ 30) : ∃ q1 q2 : ByteArray, (∀ W, (Op.stringOp .add ⟨#[34]⟩ b).run Tryd.prog W = .ok (.string q1) W) ∧ (∀ W, (Op.stringOp .add q1 ⟨#[34]⟩).run Tryd.prog W = .ok (.string q2) W) ∧ q2.size ≤ 40 ∧ q2.data.toList = qOf b.data.toList true := by
  have z1 : (ByteArray.mk #[34]).size = 1 := rfl
  obtain ⟨q1, l1, n1, e1⟩ := add_eq ⟨#[34]⟩ b (by omega)
  obtain ⟨q2, l2, n2, e2⟩ := add_eq q1 ⟨#[34]⟩ (by omega)
  refine ⟨q1, q2, e1, e2, by omega, ?_⟩
  rw [l2, l1]
  simp [qOf]
theorem mark_sums (b : ByteArray) (hb : b.size ≤ 30) : ∃ m1 m2 m3 : ByteArray, (∀ W, (Op.stringOp .add ⟨#[45, 45]⟩ b).run Tryd.prog W = .ok (.string m1) W) ∧ (∀ W, (Op.stringOp .add m1 ⟨#[13, 10]⟩).run Tryd.prog W = .ok (.string m2) W) ∧ (∀ W, (Op.stringOp .add m1 ⟨#[45, 45, 13, 10, 98, 101, 104, 105, 110, 100]⟩).run Tryd.prog W = .ok (.string m3) W) ∧
    m2.size ≤ 40 ∧ m3.size ≤ 60 ∧ m2.data.toList = mk b.data.toList ++ [13, 10] ∧ m3.data.toList = mend b.data.toList := by
  have z1 : (ByteArray.mk #[45, 45]).size = 2 := rfl
  have z2 : (ByteArray.mk #[13, 10]).size = 2 := rfl
  have z3 : (ByteArray.mk #[45, 45, 13, 10, 98, 101, 104, 105, 110, 100]).size = 10 := rfl
  obtain ⟨m1, l1, n1, e1⟩ := add_eq ⟨#[45, 45]⟩ b (by omega)
  obtain ⟨m2, l2, n2, e2⟩ := add_eq m1 ⟨#[13, 10]⟩ (by omega)
  obtain ⟨m3, l3, n3, e3⟩ := add_eq m1 ⟨#[45, 45, 13, 10, 98, 101, 104, 105, 110, 100]⟩ (by omega)
  refine ⟨m1, m2, m3, e1, e2, e3, by omega, by omega, ?_, ?_⟩
  · rw [l2, l1]; simp [mk]
  · rw [l3, l1]; simp [mk, mend, bhN]
/-- What message answers: the message, in a row of the call's own. -/
def Msgd (w : World) (M : List UInt8) (e : Ending) (w' : World) : Prop := ∃ A' q c', e = .returned (.slice A' q c') ∧ Hid (q = M.length) ∧ Gro w' A' q c' (bvs M) ∧ (∀ x ∈ blks A', w.heap.size ≤ x) ∧ Only [] w w'

set_option maxRecDepth 100000 in
set_option maxHeartbeats 8000000 in
theorem message_any (b : ByteArray) (hb : b.size ≤ 30) (z : Bool) (A1 : Option Addr) (n1 c1 : Nat) (ls : List (List UInt8)) (w : World) (hR : Rw w A1 n1 ls) (hn16 : n1 ≤ 16) (hlen : (msg b.data.toList z ls).length ≤ 4096) :
    Calls Tryd.prog 9 #[.string b, .slice A1 n1 c1, .bool z] w (Msgd w (msg b.data.toList z ls)) := by
  obtain ⟨i0, hi, hz0, hz1, hz2⟩ := info_parts infoByte
  have hRS := hR.below
  have hrl := hR.len
  obtain ⟨m1, m2, m3, E1, E2, E3, Z2, Z3, L2, L3⟩ := mark_sums b hb
  obtain ⟨l, hl⟩ : ∃ l, b.data.toList = l := ⟨_, rfl⟩
  obtain ⟨tq, htq, htqs, hq0⟩ : ∃ tq : ByteArray, tq.data.toList = qOf l z ∧ tq.size ≤ 40 ∧ ((z = false ∧ tq = b) ∨ (z = true ∧ ∃ q1, (∀ W, (Op.stringOp .add ⟨#[34]⟩ b).run Tryd.prog W = .ok (.string q1) W) ∧ (∀ W, (Op.stringOp .add q1 ⟨#[34]⟩).run Tryd.prog W = .ok (.string tq) W))) := by
    cases z with
    | false => exact ⟨b, by rw [hl]; rfl, by omega, .inl ⟨rfl, rfl⟩⟩
    | true =>
      obtain ⟨q1, q2, e1, e2, z2, l2⟩ := quote_sums b hb
      exact ⟨q2, by rw [l2, hl], z2, .inr ⟨rfl, q1, e1, e2⟩⟩
  obtain ⟨a1, a2, H1, H2, HZ, HL⟩ := head_sums tq htqs
  rw [htq] at HL
  rw [hl] at L2 L3 hlen ⊢
  have hM := msg_eq l z ls
  have hseg := segs_le l ls
  obtain ⟨M, hM0⟩ : ∃ M, msg l z ls = M := ⟨_, rfl⟩
  rw [hM0] at hM hlen ⊢
  have hmend : (mend l).length ≤ 4096 := by
    rw [hM] at hlen
    rw [List.length_append] at hlen
    omega
  have hbound : ∀ k, (hp l z ++ segs l (ls.take k)).length ≤ 4096 := fun k => by
    have := hseg k
    rw [hM, List.length_append, List.length_append] at hlen
    rw [List.length_append]
    omega
  obtain ⟨w1, g1, hcv1, hG1, hO1⟩ := conv_gro a2 (by omega) w
  rw [HL, show hdO (vMsg kdN (qOf l z)) ++ [13, 10, 13, 10] ++ pmN ++ [13, 10] = hp l z from rfl] at hG1
  have ha2 : a2.size = (hp l z).length := by have := hG1.len; simpa using this.symm
  have hp3 : 3 ≤ (hp l z).length := by simp [hp, hdO, ctN]
  have hC := fun W => conv_gro m2 (by omega) W
  have hC3 := fun W => conv_gro m3 (by omega) W
  rw [L2] at hC
  rw [L3] at hC3
  have HE1 := E1
  have HBD := Lib.hid hbound
  have HRS := Lib.hid hRS
  have HRL := Lib.hid hrl
  have HM := Lib.hid hM
  have HC0 := Lib.hid hC
  have HC30 := Lib.hid hC3
  have E1 := Lib.hid E1
  have E2 := Lib.hid E2
  have E3 := Lib.hid E3
  have hm20 : (mk l ++ [13, 10]).length = m2.size := by rw [← L2]; simp
  have hm30 : (mend l).length = m3.size := by rw [← L3]; simp
  have HA2 := Lib.hid ha2
  have HM20 := Lib.hid hm20
  have HM30 := Lib.hid hm30
  have hn1 : ls.length = n1 := hrl
  clear hC hC3 hRS hR hrl hM hbound hseg HE1 hM0 hl L2 L3 HL htq hm20 hm30 ha2 hmend hlen
  have rest : ∀ (u : Value), (Code.skip).wp Tryd.prog (fun _ _ _ => True) { tmps := #[u], defers := [] } w := fun u => wp_skip trivial
  clear rest
  rcases hq0 with ⟨rfl, rfl⟩ | ⟨rfl, q1, Q1, Q2⟩
  · go_enter Tryd.func9, Tryd.ntmps9
    go_wp2_with fail
    go_loopw [9, 8] (fun i s wr => ∃ (k : Nat) (A : Option Addr) (q c : Nat), k ≤ n1 ∧ i = .int .i64 (k : Int) ∧ s = .slice A q c ∧ Hid (q = (hp l false ++ segs l (ls.take k)).length) ∧ Gro wr A q c (bvs (hp l false ++ segs l (ls.take k))) ∧ (∀ x ∈ blks A, w.heap.size ≤ x) ∧ Only [] w wr) (fun i _ _ => n1 - (intOf i).toNat)
    case atStart => exact ⟨0, _, _, _, Nat.zero_le _, rfl, rfl, (by show _ = _; rw [HA2.out]; simp [segs]), by simpa [segs] using hG1, (fun x hx => by simp at hx; omega), hO1⟩
    case round =>
      obtain ⟨k, A, q, c, hk, rfl, rfl, HQ, hG, hbA, hO⟩ := hrel
      have hq4 : q ≤ 4096 := by rw [HQ.out]; exact HBD.out k
      by_cases hlt : k < n1
      · have hlt' : (k : Int) < (n1 : Int) := by omega
        have hkl : k < ls.length := by rw [HRL.out]; exact hlt
        have hq3 : 3 ≤ q := by rw [HQ.out, List.length_append]; omega
        obtain ⟨ad, Ai, ci, rfl, hSad, e1, hSi, hSS⟩ := (HRS.out.only hO (fun _ _ hm => nomatch hm)).at_ hlt hkl
        have hnA : ad.block ∉ blks A := fun hm => by have := hbA _ hm; omega
        obtain ⟨L, hL⟩ : ∃ L, hp l false ++ segs l (ls.take k) = L := ⟨_, rfl⟩
        have hstep : hp l false ++ segs l (ls.take (k + 1)) = L ++ (mk l ++ [13, 10]) ++ ls[k] ++ [13, 10] := by
          rw [segs_take l hkl, ← hL]
          simp [sg]
        have hbk := HBD.out (k + 1)
        rw [hstep] at hbk
        rw [hL] at hG
        obtain ⟨ML, hML⟩ : ∃ ML, mk l ++ [13, 10] = ML := ⟨_, rfl⟩
        rw [hML] at hstep hbk
        obtain ⟨PL, hPL⟩ : ∃ PL, ls[k] = PL := ⟨_, rfl⟩
        rw [hPL] at hstep hbk e1 hSi hSS
        obtain ⟨p, hpp⟩ : ∃ p, PL.length = p := ⟨_, rfl⟩
        rw [hpp] at e1 hSi hSS
        have HSP : Hid (∀ W, Only (blks A) wr.drew W → Sl W Ai p (bvs PL)) := fun W o => (hSi.drew).only' o (fun h ad2 e hm => by have h1 := hSS h ad2 e; have h2 := hbA _ hm; omega)
        obtain ⟨m, hm⟩ : ∃ m, m2.size = m := ⟨_, rfl⟩
        have HC : Hid (∀ W, ∃ W' c4, (convert 9 24 (.string m2)).run Tryd.prog W = .ok (.slice (some ⟨W.heap.size, 0, none⟩) m c4) W' ∧ Sl W' (some ⟨W.heap.size, 0, none⟩) m (bvs ML) ∧ Only [] W W') := fun W => by
          obtain ⟨W', c4, h1, h2, h3⟩ := HC0.out W
          rw [hm, hML] at *
          exact ⟨W', c4, h1, h2.sl, h3⟩
        have HSTEP := Lib.hid hstep
        have hp4 : p ≤ 4096 := by rw [← hpp]; simp only [List.length_append] at hbk; omega
        have hm4 : m ≤ 40 := by omega
        have HG := Lib.hid hG
        have hLl : L.length = q := by have := hG.len; simpa using this
        have hMLl : ML.length = m := by rw [← hML, HM20.out, hm]
        have HNL : Hid (q + m + p + 2 = (L ++ ML ++ PL ++ [13, 10]).length) := by
          show _ = _
          simp only [List.length_append, hLl, hMLl, hpp]
          rfl
        clear hstep hbk hL hML hPL hpp hSi hSS hm hG hLl hMLl HQ hSad
        go_wp2_with fail
        apply region_writesS (blks A) [5, 10, 12] (by kernel_rfl) (by kernel_rfl)
        apply rel_val (hrf := TkS_refl)
        case hw => rfl
        case hy => intro wS hN hF; skip; first | (go_simp; done) | (go_simp; with_reducible rfl)
        case' hk => skip
        try simp only [Act.put, List.setIfInBounds_toArray, List.set_cons_zero, List.set_cons_succ]
        apply rel_val (hrf := TkS_refl)
        case hw => rfl
        case hy => intro wS hN hF; skip; first | (go_simp; done) | (go_simp; with_reducible rfl)
        case' hk => skip
        try simp only [Act.put, List.setIfInBounds_toArray, List.set_cons_zero, List.set_cons_succ]
        apply rel_val (v := .string m1) (hrf := TkS_refl)
        case hw => rfl
        case hy =>
          intro wS hN hF
          have x := E1.out wS
          go_simp
        case' hk => skip
        try simp only [Act.put, List.setIfInBounds_toArray, List.set_cons_zero, List.set_cons_succ]
        apply rel_val (v := .string m2) (hrf := TkS_refl)
        case hw => rfl
        case hy =>
          intro wS hN hF
          have x := E2.out wS
          go_simp
        case' hk => skip
        try simp only [Act.put, List.setIfInBounds_toArray, List.set_cons_zero, List.set_cons_succ]
        apply rel_fact (φ := fun v W' => ∃ g c4, v = .slice (some ⟨g, 0, none⟩) m c4 ∧ Sl W' (some ⟨g, 0, none⟩) m (bvs ML)) (x := 5) (hs := lasts0 (by kernel_rfl) (fun v W1 W2 h ho => by obtain ⟨g, c4, h1, h2⟩ := h; exact ⟨g, c4, h1, h2.keep ho⟩))
        case hw => rfl
        case hy =>
          intro wS hN hF
          obtain ⟨w4, c4, hcv, hS4, hO4⟩ := HC.out wS
          refine gives_value (u := .slice (some ⟨wS.heap.size, 0, none⟩) m c4) (w' := w4) ?_ ⟨wS.heap.size, c4, rfl, hS4⟩ (TkS_only hO4)
          go_simp
        case' hk => intro v4
        try simp only [Act.put, List.setIfInBounds_toArray, List.set_cons_zero, List.set_cons_succ]
        apply rel_fact (φ := fun v W' => ∃ A5 c5, v = .slice A5 (q + m) c5 ∧ Gro W' A5 (q + m) c5 (bvs L ++ bvs ML) ∧ ∀ y ∈ blks A5, y ∈ blks A ∨ wr.heap.size ≤ y) (x := 10) (hs := lasts0 (by kernel_rfl) (fun v W1 W2 h ho => by obtain ⟨A5, c5, h1, h2, h3⟩ := h; exact ⟨A5, c5, h1, h2.keep ho, h3⟩))
        case hw => rfl
        case hy =>
          intro wS hN hF
          have hO := hN.pre (by kernel_rfl)
          obtain ⟨g, c4, rfl, hS4⟩ := hF.at_ 0 rfl (by kernel_rfl) (by kernel_rfl)
          have hGS := (HG.out.drew).keep hO
          exact gives_append_gro (.tmp 25) (.tmp 29) 24 rfl 5 i0 (.int .u8 0) 1 Tryd.underlying24 hi hz0 hz1 hz2 rfl A q c _ rfl hGS _ m c4 _ rfl hS4 (bvs_one _) (by unfold maxLen; omega) (by omega) fun A5 c5 w5 hG5 hO5 hB5 => ⟨⟨A5, c5, rfl, hG5, fun y hy => by
              rcases hB5 y hy with h | h
              · exact .inl h
              · have := hO.size; exact .inr (Nat.le_trans this h)⟩, TkS_writes rfl hO5 (fun x hx => .inl hx) (gro_big hGS hq3)⟩
        case' hk => intro v5
        try simp only [Act.put, List.setIfInBounds_toArray, List.set_cons_zero, List.set_cons_succ]
        apply rel_val (hrf := TkS_refl)
        case hw => rfl
        case hy => intro wS hN hF; skip; first | (go_simp; done) | (go_simp; with_reducible rfl)
        case' hk => skip
        try simp only [Act.put, List.setIfInBounds_toArray, List.set_cons_zero, List.set_cons_succ]
        apply rel_val (hrf := TkS_refl)
        case hw => rfl
        case hy => intro wS hN hF; skip; first | (go_simp; done) | (go_simp; with_reducible rfl)
        case' hk => skip
        try simp only [Act.put, List.setIfInBounds_toArray, List.set_cons_zero, List.set_cons_succ]
        apply rel_val (hrf := TkS_refl)
        case hw => rfl
        case hy => intro wS hN hF; skip; first | (go_simp; done) | (go_simp; with_reducible rfl)
        case' hk => skip
        try simp only [Act.put, List.setIfInBounds_toArray, List.set_cons_zero, List.set_cons_succ]
        apply rel_val (hrf := TkS_refl)
        case hw => rfl
        case hy => intro wS hN hF; have hO : Only (blks A) wr.drew wS := hN.1.b.only; have h0 := hO.cellSome (p := ad.add k) e1 (by rw [add_block]; exact hnA); first | (go_simp; done) | (go_simp; with_reducible rfl)
        case' hk => skip
        try simp only [Act.put, List.setIfInBounds_toArray, List.set_cons_zero, List.set_cons_succ]
        apply rel_fact (φ := fun v W' => ∃ A5 c5, v = .slice A5 (q + m + p) c5 ∧ Gro W' A5 (q + m + p) c5 (bvs L ++ bvs ML ++ bvs PL) ∧ ∀ y ∈ blks A5, y ∈ blks A ∨ wr.heap.size ≤ y) (x := 12) (hs := lasts0 (by kernel_rfl) (fun v W1 W2 h ho => by obtain ⟨A5, c5, h1, h2, h3⟩ := h; exact ⟨A5, c5, h1, h2.keep ho, h3⟩))
        case hw => rfl
        case hy =>
          intro wS hN hF
          have hO : Only (blks A) wr.drew wS := hN.1.b.only
          obtain ⟨A5, c5, rfl, hG5, hB5⟩ := hF.at_ 0 rfl (by kernel_rfl) (by kernel_rfl)
          have hSP := HSP.out wS hO
          exact gives_append_gro (.tmp 30) (.tmp 34) 24 rfl 5 i0 (.int .u8 0) 1 Tryd.underlying24 hi hz0 hz1 hz2 rfl A5 (q + m) c5 _ rfl hG5 Ai p ci _ rfl hSP (bvs_one _) (by unfold maxLen; omega) (by omega) fun A6 c6 w6 hG6 hO6 hB6 => ⟨⟨A6, c6, rfl, hG6, fun y hy => by
              rcases hB6 y hy with h | h
              · exact hB5 y h
              · have := hO.size; exact .inr (Nat.le_trans this h)⟩, TkS_writes rfl hO6 hB5 (gro_big hG5 (by omega))⟩
        case' hk => intro v10
        try simp only [Act.put, List.setIfInBounds_toArray, List.set_cons_zero, List.set_cons_succ]
        apply rel_fact (φ := fun v W' => ∃ g, v = .slice (some ⟨g, 0, none⟩) 2 2 ∧ Bk W' g 5 #[.int .u8 13, .int .u8 10]) (x := 12) (hs := lastsS (fun v W1 W2 h ho => by obtain ⟨g, h1, h2⟩ := h; exact ⟨g, h1, ho.s g _ _ _ h2 (Nat.le_refl _)⟩))
        case hw => rfl
        case hy =>
          intro wS hN hF
          refine gives_value (u := .slice (some ⟨wS.heap.size, 0, none⟩) 2 2) (w' := wS.alloc (.cells #[.int .u8 13, .int .u8 10] 5)) ?_ ⟨wS.heap.size, rfl, Bk.new _ _ _⟩ (TkS_only ((Only.refl [] _).alloc _))
          go_simp
        case' hk => intro v11
        try simp only [Act.put, List.setIfInBounds_toArray, List.set_cons_zero, List.set_cons_succ]
        apply rel_fact (φ := fun v W' => ∃ A5 c5, v = .slice A5 (q + m + p + 2) c5 ∧ Gro W' A5 (q + m + p + 2) c5 (bvs L ++ bvs ML ++ bvs PL ++ bvs [13, 10]) ∧ ∀ y ∈ blks A5, y ∈ blks A ∨ wr.heap.size ≤ y) (x := 9999) (hs := lasts0 (by kernel_rfl) (fun v W1 W2 h ho => by obtain ⟨A5, c5, h1, h2, h3⟩ := h; exact ⟨A5, c5, h1, h2.keep ho, h3⟩))
        case hw => rfl
        case hy =>
          intro wS hN hF
          have hO : Only (blks A) wr.drew wS := hN.1.b.only
          obtain ⟨g, rfl, hBK⟩ := hF.at_ 0 rfl (by kernel_rfl) (by kernel_rfl)
          obtain ⟨A6, c6, rfl, hG6, hB6⟩ := hF.at_ 1 rfl (by kernel_rfl) (by kernel_rfl)
          exact gives_append_gro (.tmp 35) (.tmp 36) 24 rfl 5 i0 (.int .u8 0) 1 Tryd.underlying24 hi hz0 hz1 hz2 rfl A6 (q + m + p) c6 _ rfl hG6 _ 2 2 _ rfl (sl_two hBK) (bvs_one _) (by unfold maxLen; omega) (by omega) fun A7 c7 w7 hG7 hO7 hB7 => ⟨⟨A7, c7, rfl, hG7, fun y hy => by
              rcases hB7 y hy with h | h
              · exact hB6 y h
              · have := hO.size; exact .inr (Nat.le_trans this h)⟩, TkS_writes rfl hO7 hB6 (gro_big hG6 (by omega))⟩
        case' hk => intro v12
        try simp only [Act.put, List.setIfInBounds_toArray, List.set_cons_zero, List.set_cons_succ]
        apply rel_fact (φ := fun v W' => ∃ A5 c5, v = .slice A5 (q + m + p + 2) c5 ∧ Gro W' A5 (q + m + p + 2) c5 (bvs L ++ bvs ML ++ bvs PL ++ bvs [13, 10]) ∧ ∀ y ∈ blks A5, y ∈ blks A ∨ wr.heap.size ≤ y) (x := 9999) (hs := lasts0 (by kernel_rfl) (fun v W1 W2 h ho => by obtain ⟨A5, c5, h1, h2, h3⟩ := h; exact ⟨A5, c5, h1, h2.keep ho, h3⟩))
        case hw => rfl
        case hy =>
          intro wS hN hF
          have h := hF.at_ 0 rfl (by kernel_rfl) (by kernel_rfl)
          refine gives_value (u := v12) (w' := wS) ?_ h (TkS_refl _)
          go_simp
        case' hk => intro v13
        try simp only [Act.put, List.setIfInBounds_toArray, List.set_cons_zero, List.set_cons_succ]
        refine rel_end ?_
        intro wS hO8 hF
        obtain ⟨A7, c7, rfl, hG7, hB7⟩ := facts_at hF 0 rfl
        clear hF
        go_wp2_with fail
        go_roundw
        case rel =>
          have hO8' : Only (blks A) wr.drew wS := hO8.b.only
          refine ⟨k + 1, A7, q + m + p + 2, c7, by omega, by go_num, rfl, ?_, ?_, fun x hx => ?_, hO.drew.trans hO8' (fun x hx => .inr (hbA x hx))⟩
          · show _ = _
            rw [HNL.out, HSTEP.out]
          · rw [HSTEP.out]
            simpa using hG7
          · rcases hB7 x hx with h | h
            · exact hbA x h
            · have := hO.size; omega
        case measure => simp [intOf]; omega
      · obtain rfl : k = n1 := by omega
        have hL : Hid (M = hp l false ++ segs l (ls.take k) ++ mend l) := by
          show _ = _
          rw [HM.out, List.take_of_length_le (by rw [HRL.out]; exact Nat.le_refl _)]
        obtain ⟨w9, c9, hcv9, hG9, hO9⟩ := HC30.out wr
        obtain ⟨L, hL0⟩ : ∃ L, hp l false ++ segs l (ls.take k) = L := ⟨_, rfl⟩
        rw [hL0] at hG hL
        have hGk := hG.keep hO9
        have x1 := E1.out wr
        have x3 := E3.out wr
        have hm3 : m3.size ≤ 60 := Z3
        have hLl : L.length = q := by have := hG.len; simpa using this
        have HNL : Hid (q + m3.size = M.length) := by
          show _ = _
          rw [hL.out, List.length_append, hLl, HM30.out]
        clear hL0 HQ hG hLl
        go_wp2_with (at_builtin; refine wpList_append_gro rfl (.tmp 38) (.tmp 42) 24 rfl 5 i0 (.int .u8 0) 1 Tryd.underlying24 hi hz0 hz1 hz2 rfl A q c _ rfl hGk (some ⟨wr.heap.size, 0, none⟩) m3.size c9 _ rfl hG9.sl (bvs_one _) (by unfold maxLen; omega) (by omega) ?_; intro A7 c7 w7 hG7 hO7 hB7)
        go_ret
        refine ⟨A7, q + m3.size, c7, rfl, HNL, ?_, fun x hx => ?_, (hO.then hO9).trans hO7 (fun x hx => .inr (hbA x hx))⟩
        · rw [hL.out, bvs_append]; exact hG7
        · have h1 := (hO.then hO9).size
          rcases hB7 x hx with h | h
          · exact hbA x h
          · omega
  · go_enter Tryd.func9, Tryd.ntmps9
    go_wp2_with fail
    go_loopw [9, 8] (fun i s wr => ∃ (k : Nat) (A : Option Addr) (q c : Nat), k ≤ n1 ∧ i = .int .i64 (k : Int) ∧ s = .slice A q c ∧ Hid (q = (hp l true ++ segs l (ls.take k)).length) ∧ Gro wr A q c (bvs (hp l true ++ segs l (ls.take k))) ∧ (∀ x ∈ blks A, w.heap.size ≤ x) ∧ Only [] w wr) (fun i _ _ => n1 - (intOf i).toNat)
    case atStart => exact ⟨0, _, _, _, Nat.zero_le _, rfl, rfl, (by show _ = _; rw [HA2.out]; simp [segs]), by simpa [segs] using hG1, (fun x hx => by simp at hx; omega), hO1⟩
    case round =>
      obtain ⟨k, A, q, c, hk, rfl, rfl, HQ, hG, hbA, hO⟩ := hrel
      have hq4 : q ≤ 4096 := by rw [HQ.out]; exact HBD.out k
      by_cases hlt : k < n1
      · have hlt' : (k : Int) < (n1 : Int) := by omega
        have hkl : k < ls.length := by rw [HRL.out]; exact hlt
        have hq3 : 3 ≤ q := by rw [HQ.out, List.length_append]; omega
        obtain ⟨ad, Ai, ci, rfl, hSad, e1, hSi, hSS⟩ := (HRS.out.only hO (fun _ _ hm => nomatch hm)).at_ hlt hkl
        have hnA : ad.block ∉ blks A := fun hm => by have := hbA _ hm; omega
        obtain ⟨L, hL⟩ : ∃ L, hp l true ++ segs l (ls.take k) = L := ⟨_, rfl⟩
        have hstep : hp l true ++ segs l (ls.take (k + 1)) = L ++ (mk l ++ [13, 10]) ++ ls[k] ++ [13, 10] := by
          rw [segs_take l hkl, ← hL]
          simp [sg]
        have hbk := HBD.out (k + 1)
        rw [hstep] at hbk
        rw [hL] at hG
        obtain ⟨ML, hML⟩ : ∃ ML, mk l ++ [13, 10] = ML := ⟨_, rfl⟩
        rw [hML] at hstep hbk
        obtain ⟨PL, hPL⟩ : ∃ PL, ls[k] = PL := ⟨_, rfl⟩
        rw [hPL] at hstep hbk e1 hSi hSS
        obtain ⟨p, hpp⟩ : ∃ p, PL.length = p := ⟨_, rfl⟩
        rw [hpp] at e1 hSi hSS
        have HSP : Hid (∀ W, Only (blks A) wr.drew W → Sl W Ai p (bvs PL)) := fun W o => (hSi.drew).only' o (fun h ad2 e hm => by have h1 := hSS h ad2 e; have h2 := hbA _ hm; omega)
        obtain ⟨m, hm⟩ : ∃ m, m2.size = m := ⟨_, rfl⟩
        have HC : Hid (∀ W, ∃ W' c4, (convert 9 24 (.string m2)).run Tryd.prog W = .ok (.slice (some ⟨W.heap.size, 0, none⟩) m c4) W' ∧ Sl W' (some ⟨W.heap.size, 0, none⟩) m (bvs ML) ∧ Only [] W W') := fun W => by
          obtain ⟨W', c4, h1, h2, h3⟩ := HC0.out W
          rw [hm, hML] at *
          exact ⟨W', c4, h1, h2.sl, h3⟩
        have HSTEP := Lib.hid hstep
        have hp4 : p ≤ 4096 := by rw [← hpp]; simp only [List.length_append] at hbk; omega
        have hm4 : m ≤ 40 := by omega
        have HG := Lib.hid hG
        have hLl : L.length = q := by have := hG.len; simpa using this
        have hMLl : ML.length = m := by rw [← hML, HM20.out, hm]
        have HNL : Hid (q + m + p + 2 = (L ++ ML ++ PL ++ [13, 10]).length) := by
          show _ = _
          simp only [List.length_append, hLl, hMLl, hpp]
          rfl
        clear hstep hbk hL hML hPL hpp hSi hSS hm hG hLl hMLl HQ hSad
        go_wp2_with fail
        apply region_writesS (blks A) [5, 10, 12] (by kernel_rfl) (by kernel_rfl)
        apply rel_val (hrf := TkS_refl)
        case hw => rfl
        case hy => intro wS hN hF; skip; first | (go_simp; done) | (go_simp; with_reducible rfl)
        case' hk => skip
        try simp only [Act.put, List.setIfInBounds_toArray, List.set_cons_zero, List.set_cons_succ]
        apply rel_val (hrf := TkS_refl)
        case hw => rfl
        case hy => intro wS hN hF; skip; first | (go_simp; done) | (go_simp; with_reducible rfl)
        case' hk => skip
        try simp only [Act.put, List.setIfInBounds_toArray, List.set_cons_zero, List.set_cons_succ]
        apply rel_val (v := .string m1) (hrf := TkS_refl)
        case hw => rfl
        case hy =>
          intro wS hN hF
          have x := E1.out wS
          go_simp
        case' hk => skip
        try simp only [Act.put, List.setIfInBounds_toArray, List.set_cons_zero, List.set_cons_succ]
        apply rel_val (v := .string m2) (hrf := TkS_refl)
        case hw => rfl
        case hy =>
          intro wS hN hF
          have x := E2.out wS
          go_simp
        case' hk => skip
        try simp only [Act.put, List.setIfInBounds_toArray, List.set_cons_zero, List.set_cons_succ]
        apply rel_fact (φ := fun v W' => ∃ g c4, v = .slice (some ⟨g, 0, none⟩) m c4 ∧ Sl W' (some ⟨g, 0, none⟩) m (bvs ML)) (x := 5) (hs := lasts0 (by kernel_rfl) (fun v W1 W2 h ho => by obtain ⟨g, c4, h1, h2⟩ := h; exact ⟨g, c4, h1, h2.keep ho⟩))
        case hw => rfl
        case hy =>
          intro wS hN hF
          obtain ⟨w4, c4, hcv, hS4, hO4⟩ := HC.out wS
          refine gives_value (u := .slice (some ⟨wS.heap.size, 0, none⟩) m c4) (w' := w4) ?_ ⟨wS.heap.size, c4, rfl, hS4⟩ (TkS_only hO4)
          go_simp
        case' hk => intro v4
        try simp only [Act.put, List.setIfInBounds_toArray, List.set_cons_zero, List.set_cons_succ]
        apply rel_fact (φ := fun v W' => ∃ A5 c5, v = .slice A5 (q + m) c5 ∧ Gro W' A5 (q + m) c5 (bvs L ++ bvs ML) ∧ ∀ y ∈ blks A5, y ∈ blks A ∨ wr.heap.size ≤ y) (x := 10) (hs := lasts0 (by kernel_rfl) (fun v W1 W2 h ho => by obtain ⟨A5, c5, h1, h2, h3⟩ := h; exact ⟨A5, c5, h1, h2.keep ho, h3⟩))
        case hw => rfl
        case hy =>
          intro wS hN hF
          have hO := hN.pre (by kernel_rfl)
          obtain ⟨g, c4, rfl, hS4⟩ := hF.at_ 0 rfl (by kernel_rfl) (by kernel_rfl)
          have hGS := (HG.out.drew).keep hO
          exact gives_append_gro (.tmp 25) (.tmp 29) 24 rfl 5 i0 (.int .u8 0) 1 Tryd.underlying24 hi hz0 hz1 hz2 rfl A q c _ rfl hGS _ m c4 _ rfl hS4 (bvs_one _) (by unfold maxLen; omega) (by omega) fun A5 c5 w5 hG5 hO5 hB5 => ⟨⟨A5, c5, rfl, hG5, fun y hy => by
              rcases hB5 y hy with h | h
              · exact .inl h
              · have := hO.size; exact .inr (Nat.le_trans this h)⟩, TkS_writes rfl hO5 (fun x hx => .inl hx) (gro_big hGS hq3)⟩
        case' hk => intro v5
        try simp only [Act.put, List.setIfInBounds_toArray, List.set_cons_zero, List.set_cons_succ]
        apply rel_val (hrf := TkS_refl)
        case hw => rfl
        case hy => intro wS hN hF; skip; first | (go_simp; done) | (go_simp; with_reducible rfl)
        case' hk => skip
        try simp only [Act.put, List.setIfInBounds_toArray, List.set_cons_zero, List.set_cons_succ]
        apply rel_val (hrf := TkS_refl)
        case hw => rfl
        case hy => intro wS hN hF; skip; first | (go_simp; done) | (go_simp; with_reducible rfl)
        case' hk => skip
        try simp only [Act.put, List.setIfInBounds_toArray, List.set_cons_zero, List.set_cons_succ]
        apply rel_val (hrf := TkS_refl)
        case hw => rfl
        case hy => intro wS hN hF; skip; first | (go_simp; done) | (go_simp; with_reducible rfl)
        case' hk => skip
        try simp only [Act.put, List.setIfInBounds_toArray, List.set_cons_zero, List.set_cons_succ]
        apply rel_val (hrf := TkS_refl)
        case hw => rfl
        case hy => intro wS hN hF; have hO : Only (blks A) wr.drew wS := hN.1.b.only; have h0 := hO.cellSome (p := ad.add k) e1 (by rw [add_block]; exact hnA); first | (go_simp; done) | (go_simp; with_reducible rfl)
        case' hk => skip
        try simp only [Act.put, List.setIfInBounds_toArray, List.set_cons_zero, List.set_cons_succ]
        apply rel_fact (φ := fun v W' => ∃ A5 c5, v = .slice A5 (q + m + p) c5 ∧ Gro W' A5 (q + m + p) c5 (bvs L ++ bvs ML ++ bvs PL) ∧ ∀ y ∈ blks A5, y ∈ blks A ∨ wr.heap.size ≤ y) (x := 12) (hs := lasts0 (by kernel_rfl) (fun v W1 W2 h ho => by obtain ⟨A5, c5, h1, h2, h3⟩ := h; exact ⟨A5, c5, h1, h2.keep ho, h3⟩))
        case hw => rfl
        case hy =>
          intro wS hN hF
          have hO : Only (blks A) wr.drew wS := hN.1.b.only
          obtain ⟨A5, c5, rfl, hG5, hB5⟩ := hF.at_ 0 rfl (by kernel_rfl) (by kernel_rfl)
          have hSP := HSP.out wS hO
          exact gives_append_gro (.tmp 30) (.tmp 34) 24 rfl 5 i0 (.int .u8 0) 1 Tryd.underlying24 hi hz0 hz1 hz2 rfl A5 (q + m) c5 _ rfl hG5 Ai p ci _ rfl hSP (bvs_one _) (by unfold maxLen; omega) (by omega) fun A6 c6 w6 hG6 hO6 hB6 => ⟨⟨A6, c6, rfl, hG6, fun y hy => by
              rcases hB6 y hy with h | h
              · exact hB5 y h
              · have := hO.size; exact .inr (Nat.le_trans this h)⟩, TkS_writes rfl hO6 hB5 (gro_big hG5 (by omega))⟩
        case' hk => intro v10
        try simp only [Act.put, List.setIfInBounds_toArray, List.set_cons_zero, List.set_cons_succ]
        apply rel_fact (φ := fun v W' => ∃ g, v = .slice (some ⟨g, 0, none⟩) 2 2 ∧ Bk W' g 5 #[.int .u8 13, .int .u8 10]) (x := 12) (hs := lastsS (fun v W1 W2 h ho => by obtain ⟨g, h1, h2⟩ := h; exact ⟨g, h1, ho.s g _ _ _ h2 (Nat.le_refl _)⟩))
        case hw => rfl
        case hy =>
          intro wS hN hF
          refine gives_value (u := .slice (some ⟨wS.heap.size, 0, none⟩) 2 2) (w' := wS.alloc (.cells #[.int .u8 13, .int .u8 10] 5)) ?_ ⟨wS.heap.size, rfl, Bk.new _ _ _⟩ (TkS_only ((Only.refl [] _).alloc _))
          go_simp
        case' hk => intro v11
        try simp only [Act.put, List.setIfInBounds_toArray, List.set_cons_zero, List.set_cons_succ]
        apply rel_fact (φ := fun v W' => ∃ A5 c5, v = .slice A5 (q + m + p + 2) c5 ∧ Gro W' A5 (q + m + p + 2) c5 (bvs L ++ bvs ML ++ bvs PL ++ bvs [13, 10]) ∧ ∀ y ∈ blks A5, y ∈ blks A ∨ wr.heap.size ≤ y) (x := 9999) (hs := lasts0 (by kernel_rfl) (fun v W1 W2 h ho => by obtain ⟨A5, c5, h1, h2, h3⟩ := h; exact ⟨A5, c5, h1, h2.keep ho, h3⟩))
        case hw => rfl
        case hy =>
          intro wS hN hF
          have hO : Only (blks A) wr.drew wS := hN.1.b.only
          obtain ⟨g, rfl, hBK⟩ := hF.at_ 0 rfl (by kernel_rfl) (by kernel_rfl)
          obtain ⟨A6, c6, rfl, hG6, hB6⟩ := hF.at_ 1 rfl (by kernel_rfl) (by kernel_rfl)
          exact gives_append_gro (.tmp 35) (.tmp 36) 24 rfl 5 i0 (.int .u8 0) 1 Tryd.underlying24 hi hz0 hz1 hz2 rfl A6 (q + m + p) c6 _ rfl hG6 _ 2 2 _ rfl (sl_two hBK) (bvs_one _) (by unfold maxLen; omega) (by omega) fun A7 c7 w7 hG7 hO7 hB7 => ⟨⟨A7, c7, rfl, hG7, fun y hy => by
              rcases hB7 y hy with h | h
              · exact hB6 y h
              · have := hO.size; exact .inr (Nat.le_trans this h)⟩, TkS_writes rfl hO7 hB6 (gro_big hG6 (by omega))⟩
        case' hk => intro v12
        try simp only [Act.put, List.setIfInBounds_toArray, List.set_cons_zero, List.set_cons_succ]
        apply rel_fact (φ := fun v W' => ∃ A5 c5, v = .slice A5 (q + m + p + 2) c5 ∧ Gro W' A5 (q + m + p + 2) c5 (bvs L ++ bvs ML ++ bvs PL ++ bvs [13, 10]) ∧ ∀ y ∈ blks A5, y ∈ blks A ∨ wr.heap.size ≤ y) (x := 9999) (hs := lasts0 (by kernel_rfl) (fun v W1 W2 h ho => by obtain ⟨A5, c5, h1, h2, h3⟩ := h; exact ⟨A5, c5, h1, h2.keep ho, h3⟩))
        case hw => rfl
        case hy =>
          intro wS hN hF
          have h := hF.at_ 0 rfl (by kernel_rfl) (by kernel_rfl)
          refine gives_value (u := v12) (w' := wS) ?_ h (TkS_refl _)
          go_simp
        case' hk => intro v13
        try simp only [Act.put, List.setIfInBounds_toArray, List.set_cons_zero, List.set_cons_succ]
        refine rel_end ?_
        intro wS hO8 hF
        obtain ⟨A7, c7, rfl, hG7, hB7⟩ := facts_at hF 0 rfl
        clear hF
        go_wp2_with fail
        go_roundw
        case rel =>
          have hO8' : Only (blks A) wr.drew wS := hO8.b.only
          refine ⟨k + 1, A7, q + m + p + 2, c7, by omega, by go_num, rfl, ?_, ?_, fun x hx => ?_, hO.drew.trans hO8' (fun x hx => .inr (hbA x hx))⟩
          · show _ = _
            rw [HNL.out, HSTEP.out]
          · rw [HSTEP.out]
            simpa using hG7
          · rcases hB7 x hx with h | h
            · exact hbA x h
            · have := hO.size; omega
        case measure => simp [intOf]; omega
      · obtain rfl : k = n1 := by omega
        have hL : Hid (M = hp l true ++ segs l (ls.take k) ++ mend l) := by
          show _ = _
          rw [HM.out, List.take_of_length_le (by rw [HRL.out]; exact Nat.le_refl _)]
        obtain ⟨w9, c9, hcv9, hG9, hO9⟩ := HC30.out wr
        obtain ⟨L, hL0⟩ : ∃ L, hp l true ++ segs l (ls.take k) = L := ⟨_, rfl⟩
        rw [hL0] at hG hL
        have hGk := hG.keep hO9
        have x1 := E1.out wr
        have x3 := E3.out wr
        have hm3 : m3.size ≤ 60 := Z3
        have hLl : L.length = q := by have := hG.len; simpa using this
        have HNL : Hid (q + m3.size = M.length) := by
          show _ = _
          rw [hL.out, List.length_append, hLl, HM30.out]
        clear hL0 HQ hG hLl
        go_wp2_with (at_builtin; refine wpList_append_gro rfl (.tmp 38) (.tmp 42) 24 rfl 5 i0 (.int .u8 0) 1 Tryd.underlying24 hi hz0 hz1 hz2 rfl A q c _ rfl hGk (some ⟨wr.heap.size, 0, none⟩) m3.size c9 _ rfl hG9.sl (bvs_one _) (by unfold maxLen; omega) (by omega) ?_; intro A7 c7 w7 hG7 hO7 hB7)
        go_ret
        refine ⟨A7, q + m3.size, c7, rfl, HNL, ?_, fun x hx => ?_, (hO.then hO9).trans hO7 (fun x hx => .inr (hbA x hx))⟩
        · rw [hL.out, bvs_append]; exact hG7
        · have h1 := (hO.then hO9).size
          rcases hB7 x hx with h | h
          · exact hbA x h
          · omega
end Go.Proofs.YtakehogenioobaaDoor
