/-
  The document's line.
-/
import Derived.Test.YtbbgdcnnacakjaaDoorYRefA
import Derived.Test.YtbbgdcnnacakjaaDoorYRefQ
import Derived.Test.YtbbgdcnnacakjaaDoorYAtomsM
namespace Go.Proofs.YtbbgdcnnacakjaaDoor
open Go.RowKit Go.Instr

theorem textD_suf : ∀ (n : Nat) {l t q : List UInt8}, l.length ≤ n → textD l = some (t, q) → ∃ m, 1 ≤ m ∧ m ≤ l.length ∧ q = l.drop m
  | _, [], _, _, _, h => by unfold textD at h; cases h
  | 0, c :: r, _, _, h, _ => by simp at h
  | n + 1, c :: r, t, q, hn, h => by
    simp only [List.length_cons] at hn
    by_cases hf : foreignB c = true
    · rw [textD_bad hf] at h; cases h
    · by_cases h34 : c = 34
      · subst h34
        rw [textD_end] at h
        simp only [Option.some.injEq, Prod.mk.injEq] at h
        exact ⟨1, by omega, by simp, by rw [← h.2]; rfl⟩
      · by_cases h92 : c = 92
        · subst h92
          cases r with
          | nil => rw [textD_esc0] at h; cases h
          | cons d r' =>
            rw [textD_esc] at h
            by_cases he : escB d = true
            · rw [if_pos he] at h
              simp only [Option.map_eq_some_iff] at h
              obtain ⟨⟨t', q'⟩, h1, h2⟩ := h
              simp only [Prod.mk.injEq] at h2
              simp only [List.length_cons] at hn
              obtain ⟨m, hm1, hm2, hm3⟩ := textD_suf n (by omega) h1
              exact ⟨m + 2, by omega, by simp; omega, by rw [← h2.2, hm3]; rfl⟩
            · rw [if_neg he] at h; cases h
        · rw [textD_one hf h34 h92] at h
          simp only [Option.map_eq_some_iff] at h
          obtain ⟨⟨t', q'⟩, h1, h2⟩ := h
          simp only [Prod.mk.injEq] at h2
          obtain ⟨m, hm1, hm2, hm3⟩ := textD_suf n (by omega) h1
          exact ⟨m + 1, by omega, by simp; omega, by rw [← h2.2, hm3]; rfl⟩
theorem atomD_n {l : List UInt8} {d : Bool} {n : Nat} (h : atomD d l = some n) : atomN d l = some n := by
  rw [atomD_eq] at h
  cases hN : atomN d l with
  | none => rw [hN] at h; cases h
  | some m =>
    rw [hN, Option.bind_some] at h
    split at h
    · cases h
    · exact h
theorem tokL_open (r : List UInt8) : tokL (40 :: r) = some ((3, []), r) := by rw [tokL, if_pos rfl]
theorem tokL_close (r : List UInt8) : tokL (41 :: r) = some ((4, []), r) := by rw [tokL, if_neg (by decide), if_pos rfl]
theorem tokL_quo (r : List UInt8) : tokL (34 :: r) = (textD r).map fun p => ((2, p.1), p.2) := by
  rw [tokL, if_neg (by decide), if_neg (by decide), if_pos rfl, textD_eq _ _ (Nat.le_refl _)]
  cases textL r with
  | none => rfl
  | some p =>
    show (if p.1.any foreignB = true then none else some (((2, p.1), p.2) : Tkn × List UInt8)) = (tkeep p).map _
    unfold tkeep
    split <;> rfl
theorem tokL_at {c : UInt8} {r : List UInt8} (h1 : c ≠ 40) (h2 : c ≠ 41) (h3 : c ≠ 34) : tokL (c :: r) = (atomD false (c :: r)).map fun n => ((1, (c :: r).take n), (c :: r).drop n) := by
  rw [tokL, if_neg h1, if_neg h2, if_neg h3, atomD_eq]
  cases atomN false (c :: r) with
  | none => rfl
  | some n =>
    show (if ((c :: r).take n).any foreignB = true then none else some (((1, (c :: r).take n), (c :: r).drop n) : Tkn × List UInt8)) = Option.map _ (if ((c :: r).take n).any foreignB = true then none else some n)
    split <;> rfl
theorem line_blank (T : List Tkn) (r : List UInt8) : lineL T (32 :: r) = lineL T r := lineL_blank 1 T r
theorem trim_here {c : UInt8} {r : List UInt8} (h : c ≠ 32) : trimL (c :: r) = c :: r := by
  unfold trimL
  rw [List.dropWhile_cons, if_neg (by simpa using h)]
def LineP (w : World) (G : Except Int (List Tkn)) (e : Ending) (w' : World) : Prop :=
  Only [] w w' ∧ match G with
    | .error x => e = .returned (.tuple #[.slice none 0 0, .int .i64 x])
    | .ok T => ∃ A c, e = .returned (.tuple #[.slice A T.length c, .int .i64 0]) ∧ Gw 2 w' 40 A T.length c (gx tkl T) ∧ (∀ x ∈ blks A, w.heap.size ≤ x) ∧ T.length ≤ 64
section
variable {w0 w : World} {A A0 : Option Addr} {n c n0 c0 : Nat} {l : List UInt8} {T0 : List Tkn}
theorem ybt_mid (hs : Bt w A n c l) {k p : Nat} (hk : k ≤ p) (hp : p ≤ n) : ∃ A2 c2, (∀ W, (Instr.slice 32 (.slice A n c) (some (.int .i64 (k : Int))) (some (.int .i64 (p : Int))) none).run Tryd.prog W = .ok (.slice A2 (p - k) c2) W) ∧ Bt w A2 (p - k) c2 ((l.take p).drop k) := by
  refine ⟨_, _, fun W => ?_, (hs.pre hp).cut hk⟩
  have h1 : (k : Int) ≤ (p : Int) := by omega
  have hnil := hs.nil
  have hcap := hs.cap
  have h2 : (p : Int) ≤ (c : Int) := by omega
  by_cases hck : c = k
  · subst hck
    obtain rfl : n = c := by omega
    obtain rfl : p = n := by omega
    go_simp
  · cases A with
    | none => have := hnil rfl; omega
    | some ad => go_simp
set_option maxRecDepth 100000 in
set_option maxHeartbeats 8000000 in
theorem refLine_any (hT : Gw 2 w 40 A0 n0 c0 (gx tkl T0)) (hTl : T0.length = n0) (h64 : n0 ≤ 64) (hA0 : ∀ x ∈ blks A0, w0.heap.size ≤ x) (hO : Only [] w0 w) (hs : Bt w0 A n c l) (hn : n ≤ 140737488355000) : Calls Tryd.prog 25 #[.slice A0 n0 c0, .slice A n c] w (LineP w0 (lineL T0 l)) := by
  have hl := hs.len
  have HS := Lib.hid hs
  have HL := Lib.hid hl
  obtain ⟨G, hG⟩ : ∃ G, lineL T0 l = G := ⟨_, rfl⟩
  have HG := Lib.hid hG
  rw [hG]
  have HT0 := Lib.hid hT
  have HTL0 := Lib.hid hTl
  have HA0 := Lib.hid hA0
  have HO0 := Lib.hid hO
  obtain ⟨i0, hi, hz0, hz1, hz2⟩ : ∃ i : TypeInfo, Tryd.prog.info? 40 = some i ∧ i.zero = some (.agg #[.int .i64 0, .string ⟨#[]⟩]) ∧ i.size = 2 ∧ i.bytes = 24 := by
    obtain ⟨i, h1, h2⟩ := Option.map_eq_some_iff.1 infoTok3
    simp only [Prod.mk.injEq] at h2
    exact ⟨i, h1, h2.1, h2.2.1, h2.2.2⟩
  clear hs hl hG hT hTl hA0 hO
  go_enter Tryd.func25, Tryd.ntmps25
  go_wp2_with fail
  go_loopw [0, 6] (fun ov iv wr => ∃ (k : Nat) (T : List Tkn) (A1 : Option Addr) (n1 c1 : Nat), ov = .slice A1 n1 c1 ∧ iv = .int .i64 (k : Int) ∧ k ≤ n ∧ Gw 2 wr 40 A1 n1 c1 (gx tkl T) ∧ Hid (T.length = n1) ∧ n1 ≤ 64 ∧ (∀ x ∈ blks A1, w0.heap.size ≤ x) ∧ Only [] w0 wr ∧ Hid (G = lineL T (l.drop k))) (fun _ iv _ => n - (intOf iv).toNat)
  case atStart => exact ⟨0, T0, A0, n0, c0, rfl, by simp, Nat.zero_le _, HT0.out, HTL0.out, h64, HA0.out, HO0.out, by show _ = _; rw [List.drop_zero, HG.out]⟩
  case round =>
    clear HG HT0 HTL0 HA0 HO0 h64
    obtain ⟨k, T, A1, n1, c1, rfl, rfl, hk, hT, HTL, hn64, hA, hO, HE⟩ := hrel
    have HT := Lib.hid hT
    have HA := Lib.hid hA
    have HO := Lib.hid hO
    have HSW := Lib.hid (HS.out.keep hO)
    have HSZ : Hid (w0.heap.size ≤ wr.heap.size) := hO.size
    clear hT hA hO
    by_cases hkn : k = n
    · subst hkn
      rw [List.drop_of_length_le (by rw [HL.out]; exact Nat.le_refl _)] at HE
      have hkk : ¬ (k : Int) < (k : Int) := by omega
      have HR : Hid (G = .ok T) := by show _ = _; rw [HE.out, lineL_nil rfl]
      clear HE hk
      go_wp2_with fail
      go_ret2
      refine ⟨HO.out, ?_⟩
      rw [HR.out]
      refine ⟨A1, c1, by rw [HTL.out]; rfl, by rw [HTL.out]; exact HT.out, HA.out, by rw [HTL.out]; exact hn64⟩
    · have hlt : k < n := by omega
      have hlt' : (k : Int) < (n : Int) := by omega
      have hkl : k < l.length := by rw [HL.out]; exact hlt
      have hdr := List.drop_eq_getElem_cons hkl
      obtain ⟨ad, u, rfl, hu, ha⟩ := HSW.out.sl.at_ (k := k) hlt
      rw [bvs_get l k hkl] at hu
      injection hu with hu
      subst hu
      unfold bv at ha
      obtain ⟨v, hv⟩ : ∃ v, l[k] = v := ⟨_, rfl⟩
      rw [hv] at ha hdr
      rw [hdr] at HE
      obtain ⟨q, hq⟩ : ∃ q, v.toNat = q := ⟨_, rfl⟩
      have hq8 : q < 256 := by rw [← hq]; exact byte_lt _
      rw [hq] at ha
      have hne : ∀ {y : UInt8} {Y : Nat}, y.toNat = Y → v ≠ y → ((q : Int) == (Y : Int)) = false := fun h1 h2 => by
        rw [beq_eq_false_iff_ne]
        intro e
        exact h2 (UInt8.toNat_inj.1 (by omega))
      have HDR := Lib.hid hdr
      clear hv hdr
      by_cases h32 : v = 32
      · subst h32
        obtain rfl : q = 32 := hq.symm
        have ha' : wr.cell? (ad.add k) = some (.int .u8 32) := ha
        rw [line_blank] at HE
        clear ha hne hq hq8
        go_wp2_with fail
        refine ⟨⟨k + 1, T, A1, n1, c1, rfl, by simp, by omega, HT.out, HTL, hn64, HA.out, HO.out, HE⟩, ?_⟩
        show n - ((k : Int) + 1).toNat < n - (k : Int).toNat
        omega
      · have b32 : ((q : Int) == 32) = false := hne (y := 32) (Y := 32) rfl h32
        have htr := trim_here (r := l.drop (k + 1)) h32
        by_cases h6 : n1 = 64
        · subst h6
          have HR : Hid (G = .error 5) := by show _ = _; rw [HE.out, lineL_long htr HTL.out]
          clear HE hk hne hq hq8 hn64 htr h32
          go_wp2_with fail
          go_ret2
          exact ⟨HO.out, by rw [HR.out]; rfl⟩
        · have hT64 : T.length ≠ 64 := by rw [HTL.out]; exact h6
          have hn6 : ¬ (64 : Int) ≤ (n1 : Int) := by omega
          have hn9 : n1 < 64 := by omega
          obtain ⟨p, hp⟩ : ∃ p, k + 1 = p := ⟨_, rfl⟩
          have hp1 : (k : Int) + 1 = (p : Int) := by omega
          rw [hp] at HE htr HDR
          have HPK := Lib.hid hp
          by_cases h40 : v = 40
          · subst h40
            obtain rfl : q = 40 := hq.symm
            have ha' : wr.cell? (ad.add k) = some (.int .u8 40) := ha
            have HN : Hid (G = lineL (T ++ [(3, [])]) (l.drop p)) := by show _ = _; rw [HE.out, lineL_tok htr hT64 (tokL_open _)]
            clear ha hne hq hq8 HE htr h32 b32 HDR hp
            go_wp2_with (at_builtin; go_must (refine wpList_append_gw rfl (.tmp 45) (.tmp 47) 2 24 rfl 40 i0 _ 24 Tryd.underlying24 hi hz0 hz1 hz2 rfl (by decide) A1 n1 c1 (gx tkl T) rfl (HT.out.keep ((Only.refl [] _).alloc _)) _ 1 1 (tkl (3, [])) rfl (Gr.of_bk (Bk.new _ _ _) rfl) (tkl_one _) (by unfold maxLen; omega) (by omega) (n1 + 1) rfl ?_); intro A2 c2 w2 HV2 HO2 HB2)
            have hsz := HSZ.out
            refine ⟨⟨p, T ++ [(3, [])], A2, n1 + 1, c2, rfl, by simp, by omega, by rw [gx_append, gx_one]; exact HV2, by show _ = _; rw [List.length_append, HTL.out]; rfl, by omega, fun x hx => ?_, (HO.out.alloc _).trans HO2 (fun x hx => .inr (HA.out x hx)), HN⟩, ?_⟩
            · rcases HB2 x hx with h | h
              · exact HA.out x h
              · simp at h; omega
            · show n - ((p : Nat) : Int).toNat < n - (k : Int).toNat
              omega
          · have b40 : ((q : Int) == 40) = false := hne (y := 40) (Y := 40) rfl h40
            by_cases h41 : v = 41
            · subst h41
              obtain rfl : q = 41 := hq.symm
              have ha' : wr.cell? (ad.add k) = some (.int .u8 41) := ha
              have HN : Hid (G = lineL (T ++ [(4, [])]) (l.drop p)) := by show _ = _; rw [HE.out, lineL_tok htr hT64 (tokL_close _)]
              clear ha hne hq hq8 HE htr h32 b32 HDR hp
              go_wp2_with (at_builtin; go_must (refine wpList_append_gw rfl (.tmp 53) (.tmp 55) 2 24 rfl 40 i0 _ 24 Tryd.underlying24 hi hz0 hz1 hz2 rfl (by decide) A1 n1 c1 (gx tkl T) rfl (HT.out.keep ((Only.refl [] _).alloc _)) _ 1 1 (tkl (4, [])) rfl (Gr.of_bk (Bk.new _ _ _) rfl) (tkl_one _) (by unfold maxLen; omega) (by omega) (n1 + 1) rfl ?_); intro A2 c2 w2 HV2 HO2 HB2)
              have hsz := HSZ.out
              refine ⟨⟨p, T ++ [(4, [])], A2, n1 + 1, c2, rfl, by simp, by omega, by rw [gx_append, gx_one]; exact HV2, by show _ = _; rw [List.length_append, HTL.out]; rfl, by omega, fun x hx => ?_, (HO.out.alloc _).trans HO2 (fun x hx => .inr (HA.out x hx)), HN⟩, ?_⟩
              · rcases HB2 x hx with h | h
                · exact HA.out x h
                · simp at h; omega
              · show n - ((p : Nat) : Int).toNat < n - (k : Int).toNat
                omega
            · have b41 : ((q : Int) == 41) = false := hne (y := 41) (Y := 41) rfl h41
              by_cases h34 : v = 34
              · subst h34
                obtain rfl : q = 34 := hq.symm
                have ha' : wr.cell? (ad.add k) = some (.int .u8 34) := ha
                have hqu := refQuoted_any HSW.out hn (k0 := p) (by omega)
                cases ht : textD (l.drop p) with
                | none =>
                  have HR : Hid (G = .error 3) := by show _ = _; rw [HE.out, lineL_bad htr hT64 (by rw [tokL_quo, ht]; rfl)]
                  rw [ht] at hqu
                  have HQ : Hid (Calls Tryd.prog 38 #[.slice (some ad) n c, .int .i64 (p : Int)] wr fun e w' => e = .returned (.tuple #[.string ⟨#[]⟩, .int .i64 (-1)]) ∧ Only [] wr w') := hqu
                  clear ha hne hq hq8 HE htr h32 b32 HDR hp hqu ht
                  go_wp2_with (go_at_call 38; with_reducible refine HQ.out.mono ?_; rintro e w2 ⟨rfl, hO2⟩)
                  go_ret2
                  exact ⟨HO.out.trans hO2 (fun _ hx => nomatch hx), by rw [HR.out]; rfl⟩
                | some tq =>
                  obtain ⟨t, r⟩ := tq
                  obtain ⟨m, hm1, hm2, hm3⟩ := textD_suf _ (Nat.le_refl _) ht
                  rw [List.length_drop, HL.out] at hm2
                  rw [List.drop_drop] at hm3
                  obtain ⟨P, hP⟩ : ∃ P, p + m = P := ⟨_, rfl⟩
                  have hrl : r.length = n - P := by rw [hm3, List.length_drop, HL.out, hP]
                  have HN : Hid (G = lineL (T ++ [(2, t)]) (l.drop P)) := by
                    show _ = _
                    rw [HE.out, lineL_tok htr hT64 (by rw [tokL_quo, ht]; rfl), hm3, hP]
                  rw [ht] at hqu
                  obtain ⟨tt, htt⟩ : ∃ tt, St t = tt := ⟨_, rfl⟩
                  have HQ : Hid (Calls Tryd.prog 38 #[.slice (some ad) n c, .int .i64 (p : Int)] wr fun e w' => e = .returned (.tuple #[.string tt, .int .i64 (P : Int)]) ∧ Only [] wr w') := hqu.mono fun e w' h => ⟨by
                    rw [h.1]
                    have hnP : (n : Int) - ((n - P : Nat) : Int) = (P : Int) := by omega
                    simp only [quI, hrl, htt, hnP], h.2⟩
                  have hP0 : ¬ (P : Int) < 0 := by omega
                  have hPn : P ≤ n := by omega
                  have hkP : k < P := by omega
                  clear ha hne hq hq8 HE htr h32 b32 HDR hp hqu ht hm1 hm2 hm3 hP hrl
                  subst htt
                  go_wp2_with first
                    | (go_at_call 38; (with_reducible refine HQ.out.mono ?_); rintro e w3 ⟨rfl, hO3⟩; have HT3 := Lib.hid (HT.out.keep hO3); have HO3 := Lib.hid (HO.out.trans hO3 (fun _ hx => nomatch hx)); have HSZ3 : Hid (w0.heap.size ≤ w3.heap.size) := HO3.out.size; clear hO3)
                    | (at_builtin; go_must (refine wpList_append_gw rfl (.tmp 70) (.tmp 73) 2 24 rfl 40 i0 _ 24 Tryd.underlying24 hi hz0 hz1 hz2 rfl (by decide) A1 n1 c1 (gx tkl T) rfl (HT3.out.keep ((Only.refl [] _).alloc _)) _ 1 1 (tkl (2, t)) rfl (Gr.of_bk (Bk.new _ _ _) rfl) (tkl_one _) (by unfold maxLen; omega) (by omega) (n1 + 1) rfl ?_); intro A2 c2 w2 HV2 HO2 HB2)
                  have hsz := HSZ3.out
                  refine ⟨⟨P, T ++ [(2, t)], A2, n1 + 1, c2, rfl, by simp, by omega, by rw [gx_append, gx_one]; exact HV2, by show _ = _; rw [List.length_append, HTL.out]; rfl, by omega, fun x hx => ?_, (HO3.out.alloc _).trans HO2 (fun x hx => .inr (HA.out x hx)), HN⟩, ?_⟩
                  · rcases HB2 x hx with h | h
                    · exact HA.out x h
                    · simp at h; omega
                  · show n - ((P : Nat) : Int).toNat < n - (k : Int).toNat
                    omega
              · have b34 : ((q : Int) == 34) = false := hne (y := 34) (Y := 34) rfl h34
                have hat := refAtom_any HSW.out hn (k0 := k) hk
                have hok := tokL_at (r := l.drop p) h40 h41 h34
                rw [HDR.out] at hat
                cases ht : atomD false (v :: l.drop p) with
                | none =>
                  have HR : Hid (G = .error 3) := by show _ = _; rw [HE.out, lineL_bad htr hT64 (by rw [hok, ht]; rfl)]
                  rw [ht] at hat
                  have HQ : Hid (Calls Tryd.prog 39 #[.slice (some ad) n c, .int .i64 (k : Int)] wr fun e w' => e = .returned (.int .i64 (-1)) ∧ wr = w') := hat
                  clear hne hq hq8 HE htr h32 HDR hp hat ht hok h40 h41 h34
                  go_wp2_with (go_at_call 39; with_reducible refine HQ.out.mono ?_; rintro e w2 ⟨rfl, rfl⟩)
                  go_ret2
                  exact ⟨HO.out, by rw [HR.out]; rfl⟩
                | some m =>
                  have hmN := atomD_n ht
                  have hm1 := atomN_pos (by simp [endsB, h32, h40, h41, h34]) hmN
                  have hm2 := atomN_le hmN
                  rw [← HDR.out, List.length_drop, HL.out] at hm2
                  obtain ⟨P, hP⟩ : ∃ P, k + m = P := ⟨_, rfl⟩
                  obtain ⟨t, htk⟩ : ∃ t, (v :: l.drop p).take m = t := ⟨_, rfl⟩
                  have hmid : (l.take P).drop k = t := by rw [List.drop_take, HDR.out, ← htk, show P - k = m by omega]
                  have HN : Hid (G = lineL (T ++ [(1, t)]) (l.drop P)) := by
                    show _ = _
                    rw [HE.out, lineL_tok htr hT64 (by rw [hok, ht]; rfl), htk, ← HDR.out, List.drop_drop, hP]
                  rw [ht] at hat
                  have HQ : Hid (Calls Tryd.prog 39 #[.slice (some ad) n c, .int .i64 (k : Int)] wr fun e w' => e = .returned (.int .i64 (P : Int)) ∧ wr = w') := by
                    rw [← hP]; exact hat
                  obtain ⟨A3, c3, hcut, hs3⟩ := ybt_mid HSW.out (k := k) (p := P) (by omega) (by omega)
                  rw [hmid] at hs3
                  have hcv := run_str_sl (P := Tryd.prog) (w := wr) 32 9 5 A3 (P - k) c3 t Tryd.underlying32 Tryd.underlying5 Tryd.underlying9 hs3.sl
                  obtain ⟨y, hy⟩ : ∃ y, P - k = y := ⟨_, rfl⟩
                  rw [hy] at hcut hcv
                  have hP0 : ¬ (P : Int) < 0 := by omega
                  have hPn : P ≤ n := by omega
                  have hkP : k < P := by omega
                  clear hne hq hq8 HE htr h32 HDR hp hat ht hm1 hm2 hP htk hmN hmid hok h40 h41 h34 hs3 hy
                  go_wp2_with first
                    | (go_at_call 39; with_reducible refine HQ.out.mono ?_; rintro e w3 ⟨rfl, rfl⟩)
                    | (at_builtin; go_must (refine wpList_append_gw rfl (.tmp 33) (.tmp 40) 2 24 rfl 40 i0 _ 24 Tryd.underlying24 hi hz0 hz1 hz2 rfl (by decide) A1 n1 c1 (gx tkl T) rfl (HT.out.keep ((Only.refl [] _).alloc _)) _ 1 1 (tkl (1, t)) rfl (Gr.of_bk (Bk.new _ _ _) rfl) (tkl_one _) (by unfold maxLen; omega) (by omega) (n1 + 1) rfl ?_); intro A2 c2 w2 HV2 HO2 HB2)
                  have hsz := HSZ.out
                  refine ⟨⟨P, T ++ [(1, t)], A2, n1 + 1, c2, rfl, by simp, by omega, by rw [gx_append, gx_one]; exact HV2, by show _ = _; rw [List.length_append, HTL.out]; rfl, by omega, fun x hx => ?_, (HO.out.alloc _).trans HO2 (fun x hx => .inr (HA.out x hx)), HN⟩, ?_⟩
                  · rcases HB2 x hx with h | h
                    · exact HA.out x h
                    · simp at h; omega
                  · show n - ((P : Nat) : Int).toNat < n - (k : Int).toNat
                    omega
end
end Go.Proofs.YtbbgdcnnacakjaaDoor
