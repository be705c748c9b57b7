/-
  Texts of the seat, laid one behind the other: ZWord ZInner ZKey ZParse ZKnown.
-/
import Derived.Test.YtkcnnbglmckmnaaDoorB9
import Derived.Test.YtkcnnbglmckmnaaDoorB10
import Derived.Test.YtkcnnbglmckmnaaDoorB3
import Derived.Test.YtkcnnbglmckmnaaDoorB4
import Derived.Lib.SmallJoins
namespace Go.Proofs.YtkcnnbglmckmnaaDoor
open Go.RowKit Go.Instr
theorem un_iff (s : List UInt8) : Lib.hasPrefix s [117, 110] = true ↔ s.take 2 = unW := by
  unfold Lib.hasPrefix
  rw [List.isPrefixOf_iff_prefix, List.prefix_iff_eq_take]
  exact eq_comm
theorem cut_un (s : List UInt8) (w : World) : Calls Tryd.prog 77 #[.string (St s), .string ⟨#[117, 110]⟩] w fun e w' => e = .returned (.tuple #[.string (St (if s.take 2 = unW then s.drop 2 else s)), .bool (decide (s.take 2 = unW))]) ∧ w = w' :=
  (Tryd.strings_CutPrefix (St s) ⟨#[117, 110]⟩ w).mono fun e w' he => ⟨by
    rw [he.1, show (⟨#[117, 110]⟩ : ByteArray).data.toList = [117, 110] from rfl, St_list]
    unfold Lib.trimPrefix
    by_cases h : s.take 2 = unW
    · rw [if_pos h, (un_iff s).2 h, decide_eq_true h]
      rfl
    · have h2 : Lib.hasPrefix s [117, 110] = false := by rw [Bool.eq_false_iff]; exact fun e => h ((un_iff s).1 e)
      rw [if_neg h, h2, decide_eq_false h]
      rfl, he.2.symm⟩
theorem SetR.key {b g : Nat} {d : Int} {w w1 w2 : World} {o : Option Ky} {q : List Tkn} {vs : List Value} {bo : Bool} (hs : w.heap.size ≤ w1.heap.size) (hR : Rdr b w2 g q d) (hd5 : d ≤ 5)
    (h : match o with
      | none => bo = false
      | some k => bo = true ∧ KyIs (fun x => w1.heap.size ≤ x ∧ x < w2.heap.size) w2 k vs) : KeyO b g d w w2 (o.map fun k => (k, q)) vs bo := by
  cases o with
  | none => exact ⟨h, d, q, Int.le_refl _, hd5, hR⟩
  | some k => exact ⟨h.1, h.2.mono (fun x hx => by omega), hR⟩
set_option maxRecDepth 100000 in
set_option maxHeartbeats 4000000 in
theorem word_any {D : Nat} (hKC : KeyC (prs 16) D) {b g : Nat} {w : World} {T : List Tkn} {d : Int} (h : Rdr b w g T d) (hb : b ≤ w.heap.size) (hd0 : 0 ≤ d) (hd : d + (D : Int) + 1 = 5) (raw : List UInt8) (hraw : raw.length ≤ 140737488355328) :
    Calls Tryd.prog 53 #[.pointer (some ⟨g, 0, none⟩), .string (St (lowT raw))] w (KeyR b g d w (wordK (prs 16) (keyD (prs 16) D) raw T)) := by
  obtain ⟨s, hs⟩ : ∃ s, lowT raw = s := ⟨_, rfl⟩
  have hsl : s.length ≤ 140737488355328 := by rw [← hs, lowT_len]; exact hraw
  have hps : prs 16 raw = prs 16 s := by rw [← hs, prs_low]
  obtain ⟨R, hR⟩ : ∃ R, wordK (prs 16) (keyD (prs 16) D) raw T = R := ⟨_, rfl⟩
  rw [hR]
  unfold wordK at hR
  simp only [hs, hps] at hR
  rw [hs]
  have HRR := Lib.hid hR
  clear hR hs hps hraw
  have hgb := h.lt
  have hgw : g < w.heap.size := by omega
  obtain ⟨p, hp⟩ : ∃ p, w.heap.size = p := ⟨_, rfl⟩
  have HP := Lib.hid hp
  have hO0 : Only [] w (w.alloc (.cells #[.int .i64 0, .int .i64 0, .string ⟨#[]⟩, .string ⟨#[]⟩, .slice none 0 0, .slice none 0 0] 27)) := (Only.refl _ _).alloc _
  have hR0 := h.keep hO0
  have hB0 : Bk (w.alloc (.cells #[.int .i64 0, .int .i64 0, .string ⟨#[]⟩, .string ⟨#[]⟩, .slice none 0 0, .slice none 0 0] 27)) p 27 #[.int .i64 0, .int .i64 0, .string ⟨#[]⟩, .string ⟨#[]⟩, .slice none 0 0, .slice none 0 0] := by rw [← hp]; exact Bk.new _ _ _
  have hS0 : (w.alloc (.cells #[.int .i64 0, .int .i64 0, .string ⟨#[]⟩, .string ⟨#[]⟩, .slice none 0 0, .slice none 0 0] 27)).heap.size = p + 1 := by rw [World.size_alloc, hp]
  have hb0 : b ≤ (w.alloc (.cells #[.int .i64 0, .int .i64 0, .string ⟨#[]⟩, .string ⟨#[]⟩, .slice none 0 0, .slice none 0 0] 27)).heap.size := by omega
  have hgp : g < p := by omega
  have hbp : b ≤ p := by omega
  have hd5 : d ≤ 5 := by omega
  obtain ⟨t, ht⟩ : ∃ t, St s = t := ⟨_, rfl⟩
  have hts : t.data.toList = s := by rw [← ht]
  have HO0 := Lib.hid hO0
  have HR0 := Lib.hid hR0
  have HRW := Lib.hid h
  have HB0 := Lib.hid hB0
  have HS0 := Lib.hid hS0
  have HB00 := Lib.hid hb0
  have HT := Lib.hid ht
  have HTS := Lib.hid hts
  rw [ht]
  have pass : ∀ (w3 w4 : World) (o : Option (Ky × List Tkn)) (vs : List Value) (bo : Bool), KeyO b g d (w.alloc (.cells #[.int .i64 0, .int .i64 0, .string ⟨#[]⟩, .string ⟨#[]⟩, .slice none 0 0, .slice none 0 0] 27)) w3 o vs bo → Only [p] w3 w4 → KeyO b g d w w4 o vs bo := fun w3 w4 o vs bo hk o4 =>
    hk.pass (by rw [World.size_alloc]; omega) (by rw [HS0.out]; omega) hbp o4
  have PASS := Lib.hid pass
  have pre : ∀ w3, Only [g] (w.alloc (.cells #[.int .i64 0, .int .i64 0, .string ⟨#[]⟩, .string ⟨#[]⟩, .slice none 0 0, .slice none 0 0] 27)) w3 → Bk w3 p 27 #[.int .i64 0, .int .i64 0, .string ⟨#[]⟩, .string ⟨#[]⟩, .slice none 0 0, .slice none 0 0] ∧ Only [g] w w3 := fun w3 o3 =>
    ⟨HB0.out.only o3 (fun hm => by simp at hm; omega), (HO0.out.mono (fun _ h => nomatch h)).trans o3 (fun x hx => .inl hx)⟩
  have PRE := Lib.hid pre
  clear pass pre hO0 hR0 hB0 hS0 hb0 h ht hts
  by_cases n1 : s = allW
  · have e1 := zeq_yes HTS.out n1
    have HE : Hid (R = some (.mk 1 0 [] [] [] [], T)) := by show _ = _; rw [← HRR.out, if_pos n1]
    rw [HE.out]
    unfold allW at e1
    clear HRR HE n1 
    obtain ⟨⟨q0, q1, q2, q3, q4, q5⟩, f0, f1, f2, f3, f4, f5⟩ := HB0.out.six
    go_enter Tryd.func53, Tryd.ntmps53
    go_wp2_with fail
    have hbk : Bk (w.alloc (.cells #[.int .i64 1, .int .i64 0, .string ⟨#[]⟩, .string ⟨#[]⟩, .slice none 0 0, .slice none 0 0] 27)) p 27 #[.int .i64 1, .int .i64 0, .string ⟨#[]⟩, .string ⟨#[]⟩, .slice none 0 0, .slice none 0 0] := by rw [← HP.out]; exact Bk.new _ _ _
    refine key_ret (s := 4) (u := 5) (by kernel_rfl) p _ rfl rfl hbk ?_
    exact ⟨_, _, _, _, _, _, _, _, _, _, _, rfl, (Only.refl [g] w).alloc _, rfl, KyIs.plain 1 0 [] [], HRW.out.keep ((Only.refl _ _).alloc _)⟩
  have e1 := zeq_no HTS.out n1
  unfold allW at e1
  by_cases n2 : s = largerW
  · have e2 := zeq_yes HTS.out n2
    have HE : Hid (R = numArg 3 T) := by show _ = _; rw [← HRR.out, if_neg n1, if_pos n2]
    rw [HE.out]
    unfold largerW at e2
    clear HRR HE n2 n1
    have HC := Lib.hid (size_any HR0.out HB00.out hd5 3)
    go_enter Tryd.func53, Tryd.ntmps53
    go_wp2_with (go_at_call 73; refine HC.out.mono ?_; rintro e w3 ⟨kd, n1, s1, s2, SA, ns, sc, KA, nk, kc, bo, rfl, O3, HK3⟩; obtain ⟨B3, O3'⟩ := PRE.out _ O3; have B3 := Lib.hid B3; have O3' := Lib.hid O3'; obtain ⟨⟨q0, q1, q2, q3, q4, q5⟩, f0, f1, f2, f3, f4, f5⟩ := B3.out.six; clear HC)
    refine key_ret (s := 4) (u := 5) (by kernel_rfl) p _ rfl rfl (bk_store6 B3.out _ _ _ _ _ _) ?_
    exact ⟨_, _, _, _, _, _, _, _, _, _, _, rfl, only_store6 O3'.out (.inr (by rw [HP.out]; exact Nat.le_refl _)) _ _ _ _ _ _, PASS.out _ _ _ _ _ HK3.out (only_store6 (Only.refl [p] _) (.inl (by simp)) _ _ _ _ _ _)⟩
  have e2 := zeq_no HTS.out n2
  unfold largerW at e2
  by_cases n3 : s = smallerW
  · have e3 := zeq_yes HTS.out n3
    have HE : Hid (R = numArg 4 T) := by show _ = _; rw [← HRR.out, if_neg n1, if_neg n2, if_pos n3]
    rw [HE.out]
    unfold smallerW at e3
    clear HRR HE n3 n1 n2
    have HC := Lib.hid (size_any HR0.out HB00.out hd5 4)
    go_enter Tryd.func53, Tryd.ntmps53
    go_wp2_with (go_at_call 73; refine HC.out.mono ?_; rintro e w3 ⟨kd, n1, s1, s2, SA, ns, sc, KA, nk, kc, bo, rfl, O3, HK3⟩; obtain ⟨B3, O3'⟩ := PRE.out _ O3; have B3 := Lib.hid B3; have O3' := Lib.hid O3'; obtain ⟨⟨q0, q1, q2, q3, q4, q5⟩, f0, f1, f2, f3, f4, f5⟩ := B3.out.six; clear HC)
    refine key_ret (s := 4) (u := 5) (by kernel_rfl) p _ rfl rfl (bk_store6 B3.out _ _ _ _ _ _) ?_
    exact ⟨_, _, _, _, _, _, _, _, _, _, _, rfl, only_store6 O3'.out (.inr (by rw [HP.out]; exact Nat.le_refl _)) _ _ _ _ _ _, PASS.out _ _ _ _ _ HK3.out (only_store6 (Only.refl [p] _) (.inl (by simp)) _ _ _ _ _ _)⟩
  have e3 := zeq_no HTS.out n3
  unfold smallerW at e3
  by_cases n4 : s = textW
  · have e4 := zeq_yes HTS.out n4
    have HE : Hid (R = textArg 5 [] T) := by show _ = _; rw [← HRR.out, if_neg n1, if_neg n2, if_neg n3, if_pos n4]
    rw [HE.out]
    unfold textW at e4
    clear HRR HE n4 n1 n2 n3
    have HC := Lib.hid (text_any HR0.out HB00.out hd5 5 [])
    go_enter Tryd.func53, Tryd.ntmps53
    go_wp2_with (go_at_call 74; refine HC.out.mono ?_; rintro e w3 ⟨kd, n1, s1, s2, SA, ns, sc, KA, nk, kc, bo, rfl, O3, HK3⟩; obtain ⟨B3, O3'⟩ := PRE.out _ O3; have B3 := Lib.hid B3; have O3' := Lib.hid O3'; obtain ⟨⟨q0, q1, q2, q3, q4, q5⟩, f0, f1, f2, f3, f4, f5⟩ := B3.out.six; clear HC)
    refine key_ret (s := 4) (u := 5) (by kernel_rfl) p _ rfl rfl (bk_store6 B3.out _ _ _ _ _ _) ?_
    exact ⟨_, _, _, _, _, _, _, _, _, _, _, rfl, only_store6 O3'.out (.inr (by rw [HP.out]; exact Nat.le_refl _)) _ _ _ _ _ _, PASS.out _ _ _ _ _ HK3.out (only_store6 (Only.refl [p] _) (.inl (by simp)) _ _ _ _ _ _)⟩
  have e4 := zeq_no HTS.out n4
  unfold textW at e4
  by_cases n5 : s = subjectW ∨ s = fromW ∨ s = toW
  · have HE : Hid (R = textArg 6 s T) := by show _ = _; rw [← HRR.out, if_neg n1, if_neg n2, if_neg n3, if_neg n4, if_pos n5]
    rw [HE.out]
    have hc := text_any HR0.out HB00.out hd5 6 s
    rw [HT.out] at hc
    have HC := Lib.hid hc
    clear hc HRR HE n1 n2 n3 n4
    by_cases x1 : s = subjectW
    · have y1 := zeq_yes HTS.out x1
      unfold subjectW at y1
      clear x1 n5
      go_enter Tryd.func53, Tryd.ntmps53
      go_wp2_with (go_at_call 74; refine HC.out.mono ?_; rintro e w3 ⟨kd, n1, s1, s2, SA, ns, sc, KA, nk, kc, bo, rfl, O3, HK3⟩; obtain ⟨B3, O3'⟩ := PRE.out _ O3; have B3 := Lib.hid B3; have O3' := Lib.hid O3'; obtain ⟨⟨q0, q1, q2, q3, q4, q5⟩, f0, f1, f2, f3, f4, f5⟩ := B3.out.six; clear HC)
      refine key_ret (s := 4) (u := 5) (by kernel_rfl) p _ rfl rfl (bk_store6 B3.out _ _ _ _ _ _) ?_
      exact ⟨_, _, _, _, _, _, _, _, _, _, _, rfl, only_store6 O3'.out (.inr (by rw [HP.out]; exact Nat.le_refl _)) _ _ _ _ _ _, PASS.out _ _ _ _ _ HK3.out (only_store6 (Only.refl [p] _) (.inl (by simp)) _ _ _ _ _ _)⟩
    have y1 := zeq_no HTS.out x1
    unfold subjectW at y1
    by_cases x2 : s = fromW
    · have y2 := zeq_yes HTS.out x2
      unfold fromW at y2
      clear x1 x2 n5
      go_enter Tryd.func53, Tryd.ntmps53
      go_wp2_with (go_at_call 74; refine HC.out.mono ?_; rintro e w3 ⟨kd, n1, s1, s2, SA, ns, sc, KA, nk, kc, bo, rfl, O3, HK3⟩; obtain ⟨B3, O3'⟩ := PRE.out _ O3; have B3 := Lib.hid B3; have O3' := Lib.hid O3'; obtain ⟨⟨q0, q1, q2, q3, q4, q5⟩, f0, f1, f2, f3, f4, f5⟩ := B3.out.six; clear HC)
      refine key_ret (s := 4) (u := 5) (by kernel_rfl) p _ rfl rfl (bk_store6 B3.out _ _ _ _ _ _) ?_
      exact ⟨_, _, _, _, _, _, _, _, _, _, _, rfl, only_store6 O3'.out (.inr (by rw [HP.out]; exact Nat.le_refl _)) _ _ _ _ _ _, PASS.out _ _ _ _ _ HK3.out (only_store6 (Only.refl [p] _) (.inl (by simp)) _ _ _ _ _ _)⟩
    have y2 := zeq_no HTS.out x2
    unfold fromW at y2
    have x3 : s = toW := (n5.resolve_left x1).resolve_left x2
    have y3 := zeq_yes HTS.out x3
    unfold toW at y3
    clear x1 x2 x3 n5
    go_enter Tryd.func53, Tryd.ntmps53
    go_wp2_with (go_at_call 74; refine HC.out.mono ?_; rintro e w3 ⟨kd, n1, s1, s2, SA, ns, sc, KA, nk, kc, bo, rfl, O3, HK3⟩; obtain ⟨B3, O3'⟩ := PRE.out _ O3; have B3 := Lib.hid B3; have O3' := Lib.hid O3'; obtain ⟨⟨q0, q1, q2, q3, q4, q5⟩, f0, f1, f2, f3, f4, f5⟩ := B3.out.six; clear HC)
    refine key_ret (s := 4) (u := 5) (by kernel_rfl) p _ rfl rfl (bk_store6 B3.out _ _ _ _ _ _) ?_
    exact ⟨_, _, _, _, _, _, _, _, _, _, _, rfl, only_store6 O3'.out (.inr (by rw [HP.out]; exact Nat.le_refl _)) _ _ _ _ _ _, PASS.out _ _ _ _ _ HK3.out (only_store6 (Only.refl [p] _) (.inl (by simp)) _ _ _ _ _ _)⟩
  have e5a := zeq_no HTS.out (fun e => n5 (.inl e))
  have e5b := zeq_no HTS.out (fun e => n5 (.inr (.inl e)))
  have e5c := zeq_no HTS.out (fun e => n5 (.inr (.inr e)))
  unfold subjectW at e5a
  unfold fromW at e5b
  unfold toW at e5c
  by_cases n6 : s = uidW
  · have e6 := zeq_yes HTS.out n6
    have HE : Hid (R = setArg (prs 16) T) := by show _ = _; rw [← HRR.out, if_neg n1, if_neg n2, if_neg n3, if_neg n4, if_neg n5, if_pos n6]
    rw [HE.out]
    unfold uidW at e6
    clear HRR HE n6 n1 n2 n3 n4 n5
    have hn := fnext_any HR0.out HB00.out
    unfold NextR at hn
    have hh := HR0.out.head
    have HF : Hid (setArg (prs 16) T = (if (headT T).1 = 1 then (prs 16 (headT T).2).map fun l => Ky.mk 8 0 [] [] l [] else none).map fun k => (k, T.tail)) := by
      show _ = _
      unfold setArg
      rw [atom_head]
      split
      · simp only [Option.bind_some]
        cases prs 16 (headT T).2 <;> rfl
      · rfl
    obtain ⟨⟨t1, t2⟩, hh1⟩ : ∃ t, headT T = t := ⟨_, rfl⟩
    rw [hh1] at hn hh HF
    simp only at hh
    have HN := Lib.hid hn
    have HST := Lib.hid (fun W => set_any 8 t1 t2 W hh)
    simp only at HF
    clear hn hh hh1
    go_enter Tryd.func53, Tryd.ntmps53
    go_wp2_with first
      | (go_at_call 51; refine HN.out.mono ?_; rintro e w1 ⟨rfl, O1, R1⟩; have O1 := Lib.hid O1; have R1 := Lib.hid R1; unfold tkv tkc; clear HN)
      | (go_at_call 75; refine (HST.out _).mono ?_; rintro e w3 ⟨kd, n1, s1, s2, SA, ns, sc, KA, nk, kc, bo, rfl, O3, HK3⟩; obtain ⟨B3, O3'⟩ := PRE.out _ (O1.out.then O3); have R3 := Lib.hid (R1.out.keep O3); have B3 := Lib.hid B3; have O3' := Lib.hid O3'; obtain ⟨⟨q0, q1, q2, q3, q4, q5⟩, f0, f1, f2, f3, f4, f5⟩ := B3.out.six; have SZ := Lib.hid O1.out.size; clear HST)
    refine key_ret (s := 4) (u := 5) (by kernel_rfl) p _ rfl rfl (bk_store6 B3.out _ _ _ _ _ _) ?_
    refine ⟨_, _, _, _, _, _, _, _, _, _, _, rfl, only_store6 O3'.out (.inr (by rw [HP.out]; exact Nat.le_refl _)) _ _ _ _ _ _, PASS.out _ _ _ _ _ ?_ (only_store6 (Only.refl [p] _) (.inl (by simp)) _ _ _ _ _ _)⟩
    rw [HF.out]
    exact SetR.key SZ.out R3.out hd5 HK3.out
  have e6 := zeq_no HTS.out n6
  unfold uidW at e6
  by_cases n7 : s = notW
  · have e7 := zeq_yes HTS.out n7
    have HE : Hid (R = (keyD (prs 16) D T).map fun p => (.mk 9 0 [] [] [] [p.1], p.2)) := by show _ = _; rw [← HRR.out, if_neg n1, if_neg n2, if_neg n3, if_neg n4, if_neg n5, if_neg n6, if_pos n7]
    rw [HE.out]
    unfold notW at e7
    clear HRR HE n7 n1 n2 n3 n4 n5 n6
    have HC := Lib.hid (kids_any hKC HR0.out HB00.out hd0 hd 9 1 (by omega))
    have HF : Hid (((kidsN (keyD (prs 16) D) 1 T).map fun q => (Ky.mk 9 0 [] [] [] q.1, q.2)) = (keyD (prs 16) D T).map fun p => (Ky.mk 9 0 [] [] [] [p.1], p.2)) := by
      show _ = _
      rw [kidsN]
      cases keyD (prs 16) D T <;> rfl
    rw [HF.out] at HC
    go_enter Tryd.func53, Tryd.ntmps53
    go_wp2_with (go_at_call 76; refine HC.out.mono ?_; rintro e w3 ⟨kd, n1, s1, s2, SA, ns, sc, KA, nk, kc, bo, rfl, O3, HK3⟩; obtain ⟨B3, O3'⟩ := PRE.out _ O3; have B3 := Lib.hid B3; have O3' := Lib.hid O3'; obtain ⟨⟨q0, q1, q2, q3, q4, q5⟩, f0, f1, f2, f3, f4, f5⟩ := B3.out.six; clear HC)
    refine key_ret (s := 4) (u := 5) (by kernel_rfl) p _ rfl rfl (bk_store6 B3.out _ _ _ _ _ _) ?_
    exact ⟨_, _, _, _, _, _, _, _, _, _, _, rfl, only_store6 O3'.out (.inr (by rw [HP.out]; exact Nat.le_refl _)) _ _ _ _ _ _, PASS.out _ _ _ _ _ HK3.out (only_store6 (Only.refl [p] _) (.inl (by simp)) _ _ _ _ _ _)⟩
  have e7 := zeq_no HTS.out n7
  unfold notW at e7
  by_cases n8 : s = orW
  · have e8 := zeq_yes HTS.out n8
    have HE : Hid (R = (keyD (prs 16) D T).bind fun p => (keyD (prs 16) D p.2).map fun q => (.mk 10 0 [] [] [] [p.1, q.1], q.2)) := by show _ = _; rw [← HRR.out, if_neg n1, if_neg n2, if_neg n3, if_neg n4, if_neg n5, if_neg n6, if_neg n7, if_pos n8]
    rw [HE.out]
    unfold orW at e8
    clear HRR HE n8 n1 n2 n3 n4 n5 n6 n7
    have HC := Lib.hid (kids_any hKC HR0.out HB00.out hd0 hd 10 2 (by omega))
    have HF : Hid (((kidsN (keyD (prs 16) D) 2 T).map fun q => (Ky.mk 10 0 [] [] [] q.1, q.2)) = (keyD (prs 16) D T).bind fun p => (keyD (prs 16) D p.2).map fun q => (Ky.mk 10 0 [] [] [] [p.1, q.1], q.2)) := by
      show _ = _
      rw [kidsN]
      cases keyD (prs 16) D T with
      | none => rfl
      | some p =>
        obtain ⟨a, q⟩ := p
        simp only [Option.bind_some]
        rw [kidsN]
        cases keyD (prs 16) D q <;> rfl
    rw [HF.out] at HC
    go_enter Tryd.func53, Tryd.ntmps53
    go_wp2_with (go_at_call 76; refine HC.out.mono ?_; rintro e w3 ⟨kd, n1, s1, s2, SA, ns, sc, KA, nk, kc, bo, rfl, O3, HK3⟩; obtain ⟨B3, O3'⟩ := PRE.out _ O3; have B3 := Lib.hid B3; have O3' := Lib.hid O3'; obtain ⟨⟨q0, q1, q2, q3, q4, q5⟩, f0, f1, f2, f3, f4, f5⟩ := B3.out.six; clear HC)
    refine key_ret (s := 4) (u := 5) (by kernel_rfl) p _ rfl rfl (bk_store6 B3.out _ _ _ _ _ _) ?_
    exact ⟨_, _, _, _, _, _, _, _, _, _, _, rfl, only_store6 O3'.out (.inr (by rw [HP.out]; exact Nat.le_refl _)) _ _ _ _ _ _, PASS.out _ _ _ _ _ HK3.out (only_store6 (Only.refl [p] _) (.inl (by simp)) _ _ _ _ _ _)⟩
  have e8 := zeq_no HTS.out n8
  unfold orW at e8
  by_cases hun : s.take 2 = unW
  · skip
    have hcu := fun W => cut_un s W
    rw [if_pos hun, decide_eq_true hun, HT.out] at hcu
    obtain ⟨t9, ht9⟩ : ∃ t9, St (s.drop 2) = t9 := ⟨_, rfl⟩
    have hts9 : t9.data.toList = s.drop 2 := by rw [← ht9]
    rw [ht9] at hcu
    have hfl := fun W => flag_any t9 W
    rw [hts9] at hfl
    obtain ⟨F, hF⟩ : ∃ F, flagN (s.drop 2) = F := ⟨_, rfl⟩
    rw [hF] at hfl
    have HCU := Lib.hid hcu
    have HFL := Lib.hid hfl
    by_cases hF0 : F = 0
    · skip
      have hst := fun W => set_any 7 1 s W hsl
      rw [if_pos rfl, HT.out] at hst
      have HST := Lib.hid hst
      have HE : Hid (R = ((prs 16 s).map fun l => Ky.mk 7 0 [] [] l []).map fun k => (k, T)) := by
        show _ = _
        rw [← HRR.out, if_neg n1, if_neg n2, if_neg n3, if_neg n4, if_neg n5, if_neg n6, if_neg n7, if_neg n8, if_neg (by rw [flag_un hun]; simp), if_neg (by unfold unF; rw [if_pos hun, hF, hF0]; simp)]
        cases prs 16 s <;> rfl
      have hFb : (F == 0) = true := by rw [hF0]; rfl
      rw [HE.out]
      clear HE HRR hst hcu hfl hF hF0 hun n1 n2 n3 n4 n5 n6 n7 n8 ht9 hts9
      go_enter Tryd.func53, Tryd.ntmps53
      go_wp2_with first
        | (go_at_call 77; refine (HCU.out _).mono ?_; rintro e w1 ⟨rfl, rfl⟩; clear HCU)
        | (go_at_call 78; refine (HFL.out _).mono ?_; rintro e w2 ⟨rfl, rfl⟩; clear HFL)
        | (go_at_call 75; refine (HST.out _).mono ?_; rintro e w3 ⟨kd, n1, s1, s2, SA, ns, sc, KA, nk, kc, bo, rfl, O3, HK3⟩; obtain ⟨B3, O3'⟩ := PRE.out _ (((Only.refl [g] _).alloc _).then O3); have R3 := Lib.hid ((HR0.out.keep ((Only.refl _ _).alloc _)).keep O3); have B3 := Lib.hid B3; have O3' := Lib.hid O3'; obtain ⟨⟨q0, q1, q2, q3, q4, q5⟩, f0, f1, f2, f3, f4, f5⟩ := B3.out.six; clear HST)
      refine key_ret (s := 4) (u := 5) (by kernel_rfl) p _ rfl rfl (bk_store6 B3.out _ _ _ _ _ _) ?_
      refine ⟨_, _, _, _, _, _, _, _, _, _, _, rfl, only_store6 O3'.out (.inr (by rw [HP.out]; exact Nat.le_refl _)) _ _ _ _ _ _, PASS.out _ _ _ _ _ ?_ (only_store6 (Only.refl [p] _) (.inl (by simp)) _ _ _ _ _ _)⟩
      exact SetR.key (w1 := (w.alloc (.cells #[.int .i64 0, .int .i64 0, .string ⟨#[]⟩, .string ⟨#[]⟩, .slice none 0 0, .slice none 0 0] 27)).alloc (.cells #[.int .i64 2, .int .i64 F, .string ⟨#[]⟩, .string ⟨#[]⟩, .slice none 0 0, .slice none 0 0] 27)) ((Only.refl [] _).alloc _).size R3.out hd5 HK3.out
    have HE : Hid (R = some (.mk 9 0 [] [] [] [.mk 2 F [] [] [] []], T)) := by
      show _ = _
      rw [← HRR.out, if_neg n1, if_neg n2, if_neg n3, if_neg n4, if_neg n5, if_neg n6, if_neg n7, if_neg n8, if_neg (by rw [flag_un hun]; simp), if_pos (by unfold unF; rw [if_pos hun, hF]; exact hF0)]
      unfold unF
      rw [if_pos hun, hF]
    have hFb : (F == 0) = false := by rw [beq_eq_false_iff_ne]; exact hF0
    rw [HE.out]
    clear HE HRR hcu hfl hF hF0 hun n1 n2 n3 n4 n5 n6 n7 n8 ht9 hts9
    obtain ⟨⟨q0, q1, q2, q3, q4, q5⟩, f0, f1, f2, f3, f4, f5⟩ := HB0.out.six
    go_enter Tryd.func53, Tryd.ntmps53
    go_wp2_with first
      | (go_at_call 77; refine (HCU.out _).mono ?_; rintro e w1 ⟨rfl, rfl⟩; clear HCU)
      | (go_at_call 78; refine (HFL.out _).mono ?_; rintro e w2 ⟨rfl, rfl⟩; clear HFL)
    have hbk : Bk (((w.alloc (.cells #[.int .i64 9, .int .i64 0, .string ⟨#[]⟩, .string ⟨#[]⟩, .slice none 0 0, .slice (some ⟨p + 1 + 1, 0, none⟩) 1 1] 27)).alloc (.cells #[.int .i64 2, .int .i64 F, .string ⟨#[]⟩, .string ⟨#[]⟩, .slice none 0 0, .slice none 0 0] 27)).alloc (.cells #[.int .i64 2, .int .i64 F, .string ⟨#[]⟩, .string ⟨#[]⟩, .slice none 0 0, .slice none 0 0] 27)) p 27 #[.int .i64 9, .int .i64 0, .string ⟨#[]⟩, .string ⟨#[]⟩, .slice none 0 0, .slice (some ⟨p + 1 + 1, 0, none⟩) 1 1] := by rw [← HP.out]; exact ((Bk.new _ _ _).alloc _).alloc _
    have hsz : ((w.alloc (.cells #[.int .i64 9, .int .i64 0, .string ⟨#[]⟩, .string ⟨#[]⟩, .slice none 0 0, .slice (some ⟨p + 1 + 1, 0, none⟩) 1 1] 27)).alloc (.cells #[.int .i64 2, .int .i64 F, .string ⟨#[]⟩, .string ⟨#[]⟩, .slice none 0 0, .slice none 0 0] 27)).heap.size = p + 1 + 1 := by rw [World.size_alloc, World.size_alloc, HP.out]
    have hkb := Bk.new ((w.alloc (.cells #[.int .i64 9, .int .i64 0, .string ⟨#[]⟩, .string ⟨#[]⟩, .slice none 0 0, .slice (some ⟨p + 1 + 1, 0, none⟩) 1 1] 27)).alloc (.cells #[.int .i64 2, .int .i64 F, .string ⟨#[]⟩, .string ⟨#[]⟩, .slice none 0 0, .slice none 0 0] 27)) 27 #[.int .i64 2, .int .i64 F, .string ⟨#[]⟩, .string ⟨#[]⟩, .slice none 0 0, .slice none 0 0]
    rw [hsz] at hkb
    refine key_ret (s := 4) (u := 5) (by kernel_rfl) p _ rfl rfl hbk ?_
    refine ⟨_, _, _, _, _, _, _, _, _, _, _, rfl, (((Only.refl [g] w).alloc _).alloc _).alloc _, rfl, KyIs.ofKids 9 (Gr.of_bk (cs := [.int .i64 2, .int .i64 F, .string ⟨#[]⟩, .string ⟨#[]⟩, .slice none 0 0, .slice none 0 0]) hkb rfl) (fun x hx => ?_) rfl (Nat.le_refl _) (KysIs.one (KyIs.plain 2 F [] [])), HRW.out.keep ((((Only.refl _ _).alloc _).alloc _).alloc _)⟩
    simp at hx
    rw [hx, World.size_alloc, hsz, HP.out]
    omega
  have hcu := fun W => cut_un s W
  rw [if_neg hun, decide_eq_false hun, HT.out] at hcu
  have hfl := fun W => flag_any t W
  rw [HTS.out] at hfl
  obtain ⟨F, hF⟩ : ∃ F, flagN s = F := ⟨_, rfl⟩
  rw [hF] at hfl
  have HCU := Lib.hid hcu
  have HFL := Lib.hid hfl
  by_cases hF0 : F = 0
  · skip
    have hst := fun W => set_any 7 1 s W hsl
    rw [if_pos rfl, HT.out] at hst
    have HST := Lib.hid hst
    have HE : Hid (R = ((prs 16 s).map fun l => Ky.mk 7 0 [] [] l []).map fun k => (k, T)) := by
      show _ = _
      rw [← HRR.out, if_neg n1, if_neg n2, if_neg n3, if_neg n4, if_neg n5, if_neg n6, if_neg n7, if_neg n8, if_neg (by rw [hF, hF0]; simp), if_neg (by unfold unF; rw [if_neg hun]; simp)]
      cases prs 16 s <;> rfl
    have hFb : (F == 0) = true := by rw [hF0]; rfl
    rw [HE.out]
    clear HE HRR hst hcu hfl hF hF0 hun n1 n2 n3 n4 n5 n6 n7 n8
    go_enter Tryd.func53, Tryd.ntmps53
    go_wp2_with first
      | (go_at_call 77; refine (HCU.out _).mono ?_; rintro e w1 ⟨rfl, rfl⟩; clear HCU)
      | (go_at_call 78; refine (HFL.out _).mono ?_; rintro e w2 ⟨rfl, rfl⟩; clear HFL)
      | (go_at_call 75; refine (HST.out _).mono ?_; rintro e w3 ⟨kd, n1, s1, s2, SA, ns, sc, KA, nk, kc, bo, rfl, O3, HK3⟩; obtain ⟨B3, O3'⟩ := PRE.out _ (((Only.refl [g] _).alloc _).then O3); have R3 := Lib.hid ((HR0.out.keep ((Only.refl _ _).alloc _)).keep O3); have B3 := Lib.hid B3; have O3' := Lib.hid O3'; obtain ⟨⟨q0, q1, q2, q3, q4, q5⟩, f0, f1, f2, f3, f4, f5⟩ := B3.out.six; clear HST)
    refine key_ret (s := 4) (u := 5) (by kernel_rfl) p _ rfl rfl (bk_store6 B3.out _ _ _ _ _ _) ?_
    refine ⟨_, _, _, _, _, _, _, _, _, _, _, rfl, only_store6 O3'.out (.inr (by rw [HP.out]; exact Nat.le_refl _)) _ _ _ _ _ _, PASS.out _ _ _ _ _ ?_ (only_store6 (Only.refl [p] _) (.inl (by simp)) _ _ _ _ _ _)⟩
    exact SetR.key (w1 := (w.alloc (.cells #[.int .i64 0, .int .i64 0, .string ⟨#[]⟩, .string ⟨#[]⟩, .slice none 0 0, .slice none 0 0] 27)).alloc (.cells #[.int .i64 2, .int .i64 F, .string ⟨#[]⟩, .string ⟨#[]⟩, .slice none 0 0, .slice none 0 0] 27)) ((Only.refl [] _).alloc _).size R3.out hd5 HK3.out
  have HE : Hid (R = some (.mk 2 F [] [] [] [], T)) := by
    show _ = _
    rw [← HRR.out, if_neg n1, if_neg n2, if_neg n3, if_neg n4, if_neg n5, if_neg n6, if_neg n7, if_neg n8, if_pos (by rw [hF]; exact hF0), hF]
  have hFb : (F == 0) = false := by rw [beq_eq_false_iff_ne]; exact hF0
  rw [HE.out]
  clear HE HRR hcu hfl hF hF0 hun n1 n2 n3 n4 n5 n6 n7 n8
  obtain ⟨⟨q0, q1, q2, q3, q4, q5⟩, f0, f1, f2, f3, f4, f5⟩ := HB0.out.six
  go_enter Tryd.func53, Tryd.ntmps53
  go_wp2_with first
    | (go_at_call 77; refine (HCU.out _).mono ?_; rintro e w1 ⟨rfl, rfl⟩; clear HCU)
    | (go_at_call 78; refine (HFL.out _).mono ?_; rintro e w2 ⟨rfl, rfl⟩; clear HFL)
  have hbk : Bk ((w.alloc (.cells #[.int .i64 2, .int .i64 F, .string ⟨#[]⟩, .string ⟨#[]⟩, .slice none 0 0, .slice none 0 0] 27)).alloc (.cells #[.int .i64 2, .int .i64 F, .string ⟨#[]⟩, .string ⟨#[]⟩, .slice none 0 0, .slice none 0 0] 27)) p 27 #[.int .i64 2, .int .i64 F, .string ⟨#[]⟩, .string ⟨#[]⟩, .slice none 0 0, .slice none 0 0] := by rw [← HP.out]; exact (Bk.new _ _ _).alloc _
  refine key_ret (s := 4) (u := 5) (by kernel_rfl) p _ rfl rfl hbk ?_
  exact ⟨_, _, _, _, _, _, _, _, _, _, _, rfl, ((Only.refl [g] w).alloc _).alloc _, rfl, KyIs.plain 2 F [] [], HRW.out.keep (((Only.refl _ _).alloc _).alloc _)⟩
end Go.Proofs.YtkcnnbglmckmnaaDoor
namespace Go.Proofs.YtkcnnbglmckmnaaDoor
open Go.RowKit Go.Instr
theorem tok_field (x : Int) (s : ByteArray) (W : World) : (Instr.field 45 (.agg #[.int .i64 x, .string s]) 0).run Tryd.prog W = .ok (.int .i64 x) W := by kernel_rfl
theorem shut_head (ks : List Ky) (q : List Tkn) : shutK (some (ks, q)) = if (headT q).1 = 4 then some (ks, q.tail) else none := by
  cases q with
  | nil => rfl
  | cons t r => rfl
set_option maxRecDepth 100000 in
set_option maxHeartbeats 2000000 in
theorem inner_any {ps : List UInt8 → Option (List (Int × Int))} {D : Nat} (hKC : KeyC ps D) {b g : Nat} {w : World} {T : List Tkn} {d : Int} (h : Rdr b w g T d) (hb : b ≤ w.heap.size) (hd0 : 0 ≤ d) (hd : d + (D : Int) + 1 = 5) :
    Calls Tryd.prog 52 #[.pointer (some ⟨g, 0, none⟩)] w (KeyR b g d w (andO (shutK (allK (keyD ps D) (T.length + 1) T)))) := by
  have hgb := h.lt
  obtain ⟨_, _, _, c1, _, f1, _⟩ := h.cells
  have hR1 : Rdr b ((w.setCell ⟨g, 1, none⟩ (.int .i64 (d + 1))).alloc (.cells #[.int .i64 0, .int .i64 0, .string ⟨#[]⟩, .string ⟨#[]⟩, .slice none 0 0, .slice none 0 0] 27)) g T (d + 1) := (h.deep (d + 1)).keep ((Only.refl _ _).alloc _)
  have hsz1 : (w.setCell ⟨g, 1, none⟩ (.int .i64 (d + 1))).heap.size = w.heap.size := by simp [World.setCell]
  have hA := all_any hKC hR1 (by rw [World.size_alloc, hsz1]; omega) (by omega) (by omega)
  have hO1 : Only [g] w ((w.setCell ⟨g, 1, none⟩ (.int .i64 (d + 1))).alloc (.cells #[.int .i64 0, .int .i64 0, .string ⟨#[]⟩, .string ⟨#[]⟩, .slice none 0 0, .slice none 0 0] 27)) := ((Only.refl [g] w).setCell (.inl (by simp)) _).alloc _
  have hB1 : Bk ((w.setCell ⟨g, 1, none⟩ (.int .i64 (d + 1))).alloc (.cells #[.int .i64 0, .int .i64 0, .string ⟨#[]⟩, .string ⟨#[]⟩, .slice none 0 0, .slice none 0 0] 27)) w.heap.size 27 #[.int .i64 0, .int .i64 0, .string ⟨#[]⟩, .string ⟨#[]⟩, .slice none 0 0, .slice none 0 0] := by rw [← hsz1]; exact Bk.new _ _ _
  have hgw : g < w.heap.size := by omega
  obtain ⟨p, hp⟩ : ∃ p, w.heap.size = p := ⟨_, rfl⟩
  have HP := Lib.hid hp
  rw [hp] at hB1 hsz1
  have HSZ : Hid (((w.setCell ⟨g, 1, none⟩ (.int .i64 (d + 1))).alloc (.cells #[.int .i64 0, .int .i64 0, .string ⟨#[]⟩, .string ⟨#[]⟩, .slice none 0 0, .slice none 0 0] 27)).heap.size = p + 1) := by show _ = _; rw [World.size_alloc, hsz1]
  have hgp : g < p := by omega
  have hbp : b ≤ p := by omega
  have hne : g ≠ p := by omega
  have HA := Lib.hid hA
  have HO1 := Lib.hid hO1
  have HB1 := Lib.hid hB1
  have hdd : d ≤ 4 := by omega
  obtain ⟨G, hG⟩ : ∃ G, allK (keyD ps D) (T.length + 1) T = G := ⟨_, rfl⟩
  rw [hG] at HA ⊢
  clear hG hA hO1 hB1 hR1 h hsz1
  cases G with
  | none =>
    have HN : Hid (andO (shutK none) = none) := rfl
    rw [HN.out]
    go_enter Tryd.func52, Tryd.ntmps52
    go_wp2_with (go_at_call 22; refine HA.out.mono ?_; rintro e w3 ⟨kd, n1, s1, s2, SA, ns, sc, KA, nk, kc, bo, rfl, O3, HK3⟩; obtain ⟨hbo, d1, T1, hd1, hd2, hR3⟩ := HK3.out; subst hbo; obtain ⟨_, _, _, c31, _, f31, _⟩ := hR3.cells; have HR3 := Lib.hid hR3; have B3 := HB1.out.only O3 (fun hm => by simp at hm; omega); have B3 := Lib.hid B3; have hp3 := B3.out.lt; have hg3 : g < w3.heap.size := (by omega); obtain ⟨⟨q0, q1, q2, q3, q4, q5⟩, g0, g1, g2, g3, g4, g5⟩ := B3.out.six; have O3 := Lib.hid O3; clear hR3 HK3)
    have hO5 : Only [g] w3 (w3.setCell ⟨g, 1, none⟩ (.int .i64 (d1 - 1))) := (Only.refl [g] _).setCell (.inl (by simp)) _
    refine key_ret (s := 2) (u := 3) (by kernel_rfl) p _ rfl rfl ((bk_store6 (B3.out.only hO5 (fun hm => by simp at hm; omega)) _ _ _ _ _ _).alloc _) ?_
    refine ⟨_, _, _, _, _, _, _, _, _, _, _, rfl, (only_store6 ((HO1.out.trans O3.out (fun x hx => .inl hx)).trans hO5 (fun x hx => .inl hx)) (.inr (by rw [HP.out]; exact Nat.le_refl _)) _ _ _ _ _ _).alloc _, rfl, d1 - 1, T1, by omega, by omega, (HR3.out.deep (d1 - 1)).only ((only_store6 (Only.refl [p] _) (.inl (by simp)) _ _ _ _ _ _).alloc _) (fun x hx => by simp at hx; rw [hx]; exact hbp)⟩
  | some pq =>
    obtain ⟨ks, q⟩ := pq
    rw [shut_head]
    obtain ⟨⟨t1, t2⟩, ht⟩ : ∃ t, headT q = t := ⟨_, rfl⟩
    rw [ht]
    simp only
    have hfld := tok_field t1 (St t2)
    have HT := Lib.hid ht
    clear ht
    by_cases h4 : t1 = 4
    · have hb4 : (t1 != 4) = false := by rw [h4]; rfl
      rw [if_pos h4]
      clear h4
      go_enter Tryd.func52, Tryd.ntmps52
      go_wp2_with first
        | (go_at_call 22; refine HA.out.mono ?_; rintro e w3 ⟨kd, n1, s1, s2, SA, ns, sc, KA, nk, kc, bo, rfl, O3, HK3⟩; obtain ⟨hbo, hKY, hR3⟩ := HK3.out; subst hbo; obtain ⟨_, _, _, c31, _, f31, _⟩ := hR3.cells; have B3 := HB1.out.only O3 (fun hm => by simp at hm; omega); have B3 := Lib.hid B3; have hp3 := B3.out.lt; have hg3 : g < w3.heap.size := (by omega); have HNX := fnext_any ((hR3.deep d).keep ((Only.refl _ _).alloc (.cells #[.int .i64 kd, .int .i64 n1, .string s1, .string s2, .slice SA ns sc, .slice KA nk kc] 27))) (by rw [World.size_alloc]; simp [World.setCell]; omega); unfold NextR at HNX; rw [HT.out] at HNX; have HNX := Lib.hid HNX; have HKY := Lib.hid hKY; have O3 := Lib.hid O3; clear hR3 hKY HK3)
        | (go_at_call 51; refine HNX.out.mono ?_; rintro e w5 ⟨rfl, N5, R5⟩; have o4 : Only [g] w3 ((w3.setCell ⟨g, 1, none⟩ (.int .i64 d)).alloc (.cells #[.int .i64 kd, .int .i64 n1, .string s1, .string s2, .slice SA ns sc, .slice KA nk kc] 27)) := (((Only.refl [g] w3).setCell (.inl (by simp)) _).alloc _); have hsz3 : (w3.setCell ⟨g, 1, none⟩ (.int .i64 d)).heap.size = w3.heap.size := (by simp [World.setCell]); have BK3 : Bk ((w3.setCell ⟨g, 1, none⟩ (.int .i64 d)).alloc (.cells #[.int .i64 kd, .int .i64 n1, .string s1, .string s2, .slice SA ns sc, .slice KA nk kc] 27)) w3.heap.size 27 #[.int .i64 kd, .int .i64 n1, .string s1, .string s2, .slice SA ns sc, .slice KA nk kc] := (by rw [← hsz3]; exact Bk.new _ _ _); have BK5 := BK3.only N5 (fun hm => by simp at hm; omega); have o5 := o4.trans N5 (fun x hx => .inl hx); have B5 := B3.out.only o5 (fun hm => by simp at hm; omega); have HKY5 : Hid (KyIs (fun x => p + 1 ≤ x ∧ x < w5.heap.size) w5 (andK ks) [.int .i64 kd, .int .i64 n1, .string s1, .string s2, .slice SA ns sc, .slice KA nk kc]) := (KyIs.mono (fun x hx => by have h1 := o5.size; have h2 := HSZ.out; have h3 := hx.1; have h4 := hx.2; exact ⟨by omega, by omega⟩) (KyIs.only o5 (fun x hx hm => by have h2 := HSZ.out; have h3 := hx.1; simp at hm; omega) HKY.out)); have O5 := Lib.hid ((HO1.out.trans O3.out (fun x hx => .inl hx)).trans o5 (fun x hx => .inl hx)); obtain ⟨⟨m0, m1, m2, m3, m4, m5⟩, _⟩ := BK5.six; obtain ⟨⟨q0, q1, q2, q3, q4, q5⟩, g0, g1, g2, g3, g4, g5⟩ := B5.six; have B5 := Lib.hid B5; have R5 := Lib.hid R5; clear o4 o5 N5 BK3 BK5 hsz3; unfold tkv tkc)
      have hO6 : Only [p] w5 (store6 w5 p (.int .i64 kd) (.int .i64 n1) (.string s1) (.string s2) (.slice SA ns sc) (.slice KA nk kc)) := only_store6 (Only.refl [p] _) (.inl (by simp)) _ _ _ _ _ _
      refine key_ret (s := 2) (u := 3) (by kernel_rfl) p _ rfl rfl (bk_store6 B5.out _ _ _ _ _ _) ?_
      refine ⟨_, _, _, _, _, _, _, _, _, _, _, rfl, only_store6 O5.out (.inr (by rw [HP.out]; exact Nat.le_refl _)) _ _ _ _ _ _, rfl, ?_, R5.out.only hO6 (fun x hx => by simp at hx; rw [hx]; exact hbp)⟩
      have h1 := hO6.size
      refine KyIs.mono (fun x hx => ?_) (KyIs.only hO6 (fun x hx hm => ?_) HKY5.out)
      · rw [HP.out]
        exact ⟨by omega, Nat.lt_of_lt_of_le hx.2 h1⟩
      · simp at hm
        omega
    · have hb4 : (t1 != 4) = true := by rw [bne_iff_ne]; exact h4
      rw [if_neg h4]
      clear h4
      go_enter Tryd.func52, Tryd.ntmps52
      go_wp2_with first
        | (go_at_call 22; refine HA.out.mono ?_; rintro e w3 ⟨kd, n1, s1, s2, SA, ns, sc, KA, nk, kc, bo, rfl, O3, HK3⟩; obtain ⟨hbo, hKY, hR3⟩ := HK3.out; subst hbo; obtain ⟨_, _, _, c31, _, f31, _⟩ := hR3.cells; have B3 := HB1.out.only O3 (fun hm => by simp at hm; omega); have B3 := Lib.hid B3; have hp3 := B3.out.lt; have hg3 : g < w3.heap.size := (by omega); have HNX := fnext_any ((hR3.deep d).keep ((Only.refl _ _).alloc (.cells #[.int .i64 kd, .int .i64 n1, .string s1, .string s2, .slice SA ns sc, .slice KA nk kc] 27))) (by rw [World.size_alloc]; simp [World.setCell]; omega); unfold NextR at HNX; rw [HT.out] at HNX; have HNX := Lib.hid HNX; have HKY := Lib.hid hKY; have O3 := Lib.hid O3; clear hR3 hKY HK3)
        | (go_at_call 51; refine HNX.out.mono ?_; rintro e w5 ⟨rfl, N5, R5⟩; have o4 : Only [g] w3 ((w3.setCell ⟨g, 1, none⟩ (.int .i64 d)).alloc (.cells #[.int .i64 kd, .int .i64 n1, .string s1, .string s2, .slice SA ns sc, .slice KA nk kc] 27)) := (((Only.refl [g] w3).setCell (.inl (by simp)) _).alloc _); have hsz3 : (w3.setCell ⟨g, 1, none⟩ (.int .i64 d)).heap.size = w3.heap.size := (by simp [World.setCell]); have BK3 : Bk ((w3.setCell ⟨g, 1, none⟩ (.int .i64 d)).alloc (.cells #[.int .i64 kd, .int .i64 n1, .string s1, .string s2, .slice SA ns sc, .slice KA nk kc] 27)) w3.heap.size 27 #[.int .i64 kd, .int .i64 n1, .string s1, .string s2, .slice SA ns sc, .slice KA nk kc] := (by rw [← hsz3]; exact Bk.new _ _ _); have BK5 := BK3.only N5 (fun hm => by simp at hm; omega); have o5 := o4.trans N5 (fun x hx => .inl hx); have B5 := B3.out.only o5 (fun hm => by simp at hm; omega); have HKY5 : Hid (KyIs (fun x => p + 1 ≤ x ∧ x < w5.heap.size) w5 (andK ks) [.int .i64 kd, .int .i64 n1, .string s1, .string s2, .slice SA ns sc, .slice KA nk kc]) := (KyIs.mono (fun x hx => by have h1 := o5.size; have h2 := HSZ.out; have h3 := hx.1; have h4 := hx.2; exact ⟨by omega, by omega⟩) (KyIs.only o5 (fun x hx hm => by have h2 := HSZ.out; have h3 := hx.1; simp at hm; omega) HKY.out)); have O5 := Lib.hid ((HO1.out.trans O3.out (fun x hx => .inl hx)).trans o5 (fun x hx => .inl hx)); obtain ⟨⟨m0, m1, m2, m3, m4, m5⟩, _⟩ := BK5.six; obtain ⟨⟨q0, q1, q2, q3, q4, q5⟩, g0, g1, g2, g3, g4, g5⟩ := B5.six; have B5 := Lib.hid B5; have R5 := Lib.hid R5; clear o4 o5 N5 BK3 BK5 hsz3; unfold tkv tkc)
      refine key_ret (s := 2) (u := 3) (by kernel_rfl) p _ rfl rfl (bk_store6 B5.out _ _ _ _ _ _) ?_
      exact ⟨_, _, _, _, _, _, _, _, _, _, _, rfl, only_store6 O5.out (.inr (by rw [HP.out]; exact Nat.le_refl _)) _ _ _ _ _ _, rfl, d, q.tail, Int.le_refl _, by omega, R5.out.only (only_store6 (Only.refl [p] _) (.inl (by simp)) _ _ _ _ _ _) (fun x hx => by simp at hx; rw [hx]; exact hbp)⟩
end Go.Proofs.YtkcnnbglmckmnaaDoor
namespace Go.Proofs.YtkcnnbglmckmnaaDoor
open Go.RowKit Go.Instr
theorem key_head (ps : List UInt8 → Option (List (Int × Int))) (D : Nat) (T : List Tkn) : keyD ps (D + 1) T = if (headT T).1 = 1 then wordK ps (keyD ps D) (headT T).2 T.tail else if (headT T).1 = 3 then andO (shutK (allK (keyD ps D) (T.tail.length + 1) T.tail)) else none := by
  cases T with
  | nil => rfl
  | cons t r =>
    show keyD ps (D + 1) (t :: r) = if t.1 = 1 then _ else if t.1 = 3 then _ else none
    rw [keyD]
    split
    · rfl
    · split
      · exact inner_all ps D r
      · rfl
set_option maxRecDepth 100000 in
set_option maxHeartbeats 2000000 in
theorem key_step {D : Nat} (hKC : KeyC (prs 16) D) : KeyC (prs 16) (D + 1) := by
  intro b g w T d h hb hd0 hd
  have hd' : d + (D : Int) + 1 = 5 := by omega
  obtain ⟨_, _, _, c1, _, f1, _⟩ := h.cells
  have hgb := h.lt
  have hgw : g < w.heap.size := by omega
  obtain ⟨p, hp⟩ : ∃ p, w.heap.size = p := ⟨_, rfl⟩
  have HP := Lib.hid hp
  have hgp : g < p := by omega
  have hgp' : g ≠ p := by omega
  have hbp : b ≤ p := by omega
  have hd4 : d ≤ 4 := by omega
  have hO0 : Only [] w (w.alloc (.cells #[.int .i64 0, .int .i64 0, .string ⟨#[]⟩, .string ⟨#[]⟩, .slice none 0 0, .slice none 0 0] 27)) := (Only.refl _ _).alloc _
  have hB0 : Bk (w.alloc (.cells #[.int .i64 0, .int .i64 0, .string ⟨#[]⟩, .string ⟨#[]⟩, .slice none 0 0, .slice none 0 0] 27)) p 27 #[.int .i64 0, .int .i64 0, .string ⟨#[]⟩, .string ⟨#[]⟩, .slice none 0 0, .slice none 0 0] := by rw [← hp]; exact Bk.new _ _ _
  have hN := fnext_any (h.keep hO0) (by rw [World.size_alloc]; omega)
  unfold NextR at hN
  obtain ⟨R, hR⟩ : ∃ R, keyD (prs 16) (D + 1) T = R := ⟨_, rfl⟩
  rw [hR]
  rw [key_head] at hR
  have hraw := h.head
  obtain ⟨⟨t1, t2⟩, ht⟩ : ∃ t, headT T = t := ⟨_, rfl⟩
  rw [ht] at hN hR hraw
  simp only at hR hraw
  have HN := Lib.hid hN
  have HRR := Lib.hid hR
  have HO0 := Lib.hid hO0
  have HB0 := Lib.hid hB0
  have HRAW := Lib.hid hraw
  obtain ⟨q, hq⟩ : ∃ q, T.tail = q := ⟨_, rfl⟩
  rw [hq] at HN HRR
  clear hN hR hO0 hB0 ht h hraw hq
  have pre : ∀ w1, Only [g] (w.alloc (.cells #[.int .i64 0, .int .i64 0, .string ⟨#[]⟩, .string ⟨#[]⟩, .slice none 0 0, .slice none 0 0] 27)) w1 → ∀ o2 : Obj, ∀ w3, Only [g] (w1.alloc o2) w3 → Bk w3 p 27 #[.int .i64 0, .int .i64 0, .string ⟨#[]⟩, .string ⟨#[]⟩, .slice none 0 0, .slice none 0 0] ∧ Only [g] w w3 ∧ w.heap.size ≤ (w1.alloc o2).heap.size ∧ p < (w1.alloc o2).heap.size := fun w1 o1 o2 w3 o3 => by
    have b1 : Bk (w1.alloc o2) p 27 _ := (HB0.out.only o1 (fun hm => by simp at hm; omega)).alloc o2
    have o4 := ((HO0.out.mono (fun _ h => nomatch h)).trans o1 (fun x hx => .inl hx)).alloc o2
    exact ⟨b1.only o3 (fun hm => by simp at hm; omega), o4.trans o3 (fun x hx => .inl hx), o4.size, b1.lt⟩
  have PRE := Lib.hid pre
  clear pre
  by_cases h1 : t1 = 1
  · have HE : Hid (R = wordK (prs 16) (keyD (prs 16) D) t2 q) := by show _ = _; rw [← HRR.out, if_pos h1]
    have hb1 : (t1 == 3) = false := by rw [h1]; rfl
    have hb2 : (t1 == 1) = true := by rw [h1]; rfl
    rw [HE.out]
    clear HE HRR h1
    have hsm := fun W => fsmall_any (St t2) (by rw [St_size]; exact HRAW.out) W
    rw [St_list] at hsm
    have HSM := Lib.hid hsm
    clear hsm
    go_enter Tryd.func36, Tryd.ntmps36
    go_wp2_with first
      | (go_at_call 51; refine HN.out.mono ?_; rintro e w1 ⟨rfl, O1, R1⟩; have O1 := Lib.hid O1; have R1 := Lib.hid R1; unfold tkv tkc; clear HN)
      | (go_at_call 40; refine (HSM.out _).mono ?_; rintro e w2 ⟨u, rfl, HU, O2⟩; obtain rfl := HU.out; have O2 := Lib.hid O2; have HWC := Lib.hid (word_any hKC ((R1.out.keep ((Only.refl _ _).alloc _)).keep O2.out) (by have h1 := O1.out.size; have h2 := O2.out.size; rw [World.size_alloc] at h1 h2; omega) hd0 hd' t2 HRAW.out); clear HSM)
      | (go_at_call 53; refine HWC.out.mono ?_; rintro e w3 ⟨kd, n1, s1, s2, SA, ns, sc, KA, nk, kc, bo, rfl, O3, HK3⟩; obtain ⟨B3, O3', z1, z2⟩ := PRE.out _ O1.out _ _ ((O2.out.mono (fun _ h => nomatch h)).trans O3 (fun x hx => .inl hx)); have B3 := Lib.hid B3; have O3' := Lib.hid O3'; have SZ := Lib.hid O2.out.size; obtain ⟨⟨q0, q1, q2, q3, q4, q5⟩, f0, f1, f2, f3, f4, f5⟩ := B3.out.six; clear HWC)
    refine key_ret (s := 2) (u := 3) (by kernel_rfl) p _ rfl rfl (bk_store6 B3.out _ _ _ _ _ _) ?_
    exact ⟨_, _, _, _, _, _, _, _, _, _, _, rfl, only_store6 O3'.out (.inr (by rw [HP.out]; exact Nat.le_refl _)) _ _ _ _ _ _, HK3.out.pass (Nat.le_trans z1 SZ.out) (Nat.lt_of_lt_of_le z2 SZ.out) hbp (only_store6 (Only.refl [p] _) (.inl (by simp)) _ _ _ _ _ _)⟩
  · have hb2 : (t1 == 1) = false := by rw [beq_eq_false_iff_ne]; exact h1
    by_cases h3 : t1 = 3
    · have HE : Hid (R = andO (shutK (allK (keyD (prs 16) D) (q.length + 1) q))) := by show _ = _; rw [← HRR.out, if_neg h1, if_pos h3]
      have hb1 : (t1 == 3) = true := by rw [h3]; rfl
      rw [HE.out]
      clear HE HRR h1 h3
      go_enter Tryd.func36, Tryd.ntmps36
      go_wp2_with first
        | (go_at_call 51; refine HN.out.mono ?_; rintro e w1 ⟨rfl, O1, R1⟩; have HIC := Lib.hid (inner_any hKC (R1.keep ((Only.refl _ _).alloc (.cells #[.int .i64 t1, .string (St t2)] 45))) (by have h1 := O1.size; rw [World.size_alloc] at h1; rw [World.size_alloc]; omega) hd0 hd'); have O1 := Lib.hid O1; have R1 := Lib.hid R1; unfold tkv tkc; clear HN)
        | (go_at_call 52; refine HIC.out.mono ?_; rintro e w3 ⟨kd, n1, s1, s2, SA, ns, sc, KA, nk, kc, bo, rfl, O3, HK3⟩; obtain ⟨B3, O3', z1, z2⟩ := PRE.out _ O1.out _ _ O3; have B3 := Lib.hid B3; have O3' := Lib.hid O3'; obtain ⟨⟨q0, q1, q2, q3, q4, q5⟩, f0, f1, f2, f3, f4, f5⟩ := B3.out.six; clear HIC)
      refine key_ret (s := 2) (u := 3) (by kernel_rfl) p _ rfl rfl (bk_store6 B3.out _ _ _ _ _ _) ?_
      exact ⟨_, _, _, _, _, _, _, _, _, _, _, rfl, only_store6 O3'.out (.inr (by rw [HP.out]; exact Nat.le_refl _)) _ _ _ _ _ _, HK3.out.pass z1 z2 hbp (only_store6 (Only.refl [p] _) (.inl (by simp)) _ _ _ _ _ _)⟩
    · have HE : Hid (R = none) := by show _ = _; rw [← HRR.out, if_neg h1, if_neg h3]
      have hb1 : (t1 == 3) = false := by rw [beq_eq_false_iff_ne]; exact h3
      rw [HE.out]
      clear HE HRR h1 h3
      go_enter Tryd.func36, Tryd.ntmps36
      go_upto_region 4 with (go_at_call 51; refine HN.out.mono ?_; rintro e w1 ⟨rfl, O1, R1⟩; have B1 := HB0.out.only O1 (fun hm => by simp at hm; omega); have B1 := Lib.hid B1; have O1' := Lib.hid ((HO0.out.mono (fun _ h => nomatch h)).trans O1 (fun x hx => .inl hx)); obtain ⟨⟨q0, q1, q2, q3, q4, q5⟩, f0, f1, f2, f3, f4, f5⟩ := B1.out.six; have hpw1 := B1.out.lt; have O1 := Lib.hid O1; have R1 := Lib.hid R1; unfold tkv tkc; clear HN)
      have BW := Lib.hid (B1.out.alloc (.cells #[.int .i64 t1, .string (St t2)] 45))
      have TW : Hid ((w1.alloc (.cells #[.int .i64 t1, .string (St t2)] 45)).cell? ⟨w1.heap.size, 0, none⟩ = some (.int .i64 t1)) := by show _ = _; rw [(Bk.new w1 45 #[.int .i64 t1, .string (St t2)]).cell]; rfl
      have OW := Lib.hid (O1'.out.alloc (.cells #[.int .i64 t1, .string (St t2)] 45))
      have RW := Lib.hid (R1.out.keep ((Only.refl _ _).alloc (.cells #[.int .i64 t1, .string (St t2)] 45)))
      clear q0 q1 q2 q3 q4 q5 f0 f1 f2 f3 f4 f5 B1 O1 O1' R1
      generalize w1.alloc (.cells #[.int .i64 t1, .string (St t2)] 45) = W at *
      have tw := TW.out
      obtain ⟨⟨q0, q1, q2, q3, q4, q5⟩, f0, f1, f2, f3, f4, f5⟩ := BW.out.six
      go_wp2_with fail
      refine key_ret (s := 2) (u := 3) (by kernel_rfl) p _ rfl rfl (bk_store6 BW.out _ _ _ _ _ _) ?_
      exact ⟨_, _, _, _, _, _, _, _, _, _, _, rfl, only_store6 OW.out (.inr (by rw [HP.out]; exact Nat.le_refl _)) _ _ _ _ _ _, rfl, d, q, Int.le_refl _, by omega, RW.out.only (only_store6 (Only.refl [p] _) (.inl (by simp)) _ _ _ _ _ _) (fun x hx => by simp at hx; rw [hx]; exact hbp)⟩
theorem key_zero : KeyC (prs 16) 0 := by
  intro b g w T d h hb hd0 hd
  obtain rfl : d = 5 := by omega
  obtain ⟨_, _, _, c1, _, f1, _⟩ := h.cells
  have hgb := h.lt
  have hgw : g < w.heap.size := by omega
  obtain ⟨p, hp⟩ : ∃ p, w.heap.size = p := ⟨_, rfl⟩
  have HP := Lib.hid hp
  have hgp : g < p := by omega
  have hgp' : g ≠ p := by omega
  have hbp : b ≤ p := by omega
  have hB0 : Hid (Bk (w.alloc (.cells #[.int .i64 0, .int .i64 0, .string ⟨#[]⟩, .string ⟨#[]⟩, .slice none 0 0, .slice none 0 0] 27)) p 27 #[.int .i64 0, .int .i64 0, .string ⟨#[]⟩, .string ⟨#[]⟩, .slice none 0 0, .slice none 0 0]) := by rw [← hp]; exact Bk.new _ _ _
  have HR := Lib.hid h
  have HN : Hid (keyD (prs 16) 0 T = none) := rfl
  rw [HN.out]
  clear h
  go_enter Tryd.func36, Tryd.ntmps36
  go_wp2_with fail
  refine key_ret (s := 2) (u := 3) (by kernel_rfl) p _ rfl rfl hB0.out ?_
  exact ⟨_, _, _, _, _, _, _, _, _, _, _, rfl, (Only.refl [g] w).alloc _, rfl, 5, T, Int.le_refl _, Int.le_refl _, HR.out.keep ((Only.refl _ _).alloc _)⟩
theorem key_any : ∀ D, KeyC (prs 16) D
  | 0 => key_zero
  | D + 1 => key_step (key_any D)
end Go.Proofs.YtkcnnbglmckmnaaDoor
namespace Go.Proofs.YtkcnnbglmckmnaaDoor
open Go.RowKit Go.Instr
def ParseR (w : World) (o : Option Ky) (e : Ending) (w' : World) : Prop :=
  ∃ (kd n : Int) (s t : ByteArray) (SA : Option Addr) (ns sc : Nat) (KA : Option Addr) (nk kc : Nat) (er : Int), e = .returned (.tuple #[.agg #[.int .i64 kd, .int .i64 n, .string s, .string t, .slice SA ns sc, .slice KA nk kc], .int .i64 er]) ∧ Only [] w w' ∧
    Hid (match o with
      | none => er = 3 ∧ KyIs (fun x => w.heap.size ≤ x ∧ x < w'.heap.size) w' Ky.none [.int .i64 kd, .int .i64 n, .string s, .string t, .slice SA ns sc, .slice KA nk kc]
      | some k => er = 0 ∧ KyIs (fun x => w.heap.size ≤ x ∧ x < w'.heap.size) w' k [.int .i64 kd, .int .i64 n, .string s, .string t, .slice SA ns sc, .slice KA nk kc])
theorem KyIs.noneK {K : Nat → Prop} {w : World} : KyIs K w Ky.none [.int .i64 0, .int .i64 0, .string ⟨#[]⟩, .string ⟨#[]⟩, .slice none 0 0, .slice none 0 0] := KyIs.plain 0 0 [] []
set_option maxRecDepth 100000 in
set_option maxHeartbeats 2000000 in
theorem fParse_any {w : World} {A : Option Addr} {n c : Nat} {T : List Tkn} (h : Gr 2 w A n (gx tkl T)) (hl : T.length = n) (hc : n ≤ c) (hn : n ≤ 100000) (ht : ∀ t ∈ T, t.2.length ≤ 140737488355328) :
    Calls Tryd.prog 11 #[.slice A n c] w (ParseR w (parseK (prs 16) T)) := by
  obtain ⟨p, hp⟩ : ∃ p, w.heap.size = p := ⟨_, rfl⟩
  have HP := Lib.hid hp
  have hO0 : Only [] w ((w.alloc (.cells #[.int .i64 0, .int .i64 0, .string ⟨#[]⟩, .string ⟨#[]⟩, .slice none 0 0, .slice none 0 0] 27)).alloc (.cells #[.slice A n c, .int .i64 0] 55)) := ((Only.refl _ _).alloc _).alloc _
  have hS0 : ((w.alloc (.cells #[.int .i64 0, .int .i64 0, .string ⟨#[]⟩, .string ⟨#[]⟩, .slice none 0 0, .slice none 0 0] 27)).alloc (.cells #[.slice A n c, .int .i64 0] 55)).heap.size = p + 1 + 1 := by rw [World.size_alloc, World.size_alloc, hp]
  have hR0 : Rdr (p + 1 + 1) ((w.alloc (.cells #[.int .i64 0, .int .i64 0, .string ⟨#[]⟩, .string ⟨#[]⟩, .slice none 0 0, .slice none 0 0] 27)).alloc (.cells #[.slice A n c, .int .i64 0] 55)) (p + 1) T 0 := by
    refine ⟨A, n, c, ?_, h.keep hO0, hl, hc, by omega, fun x hx h0 => ?_, ht, by omega⟩
    · have := Bk.new (w.alloc (.cells #[.int .i64 0, .int .i64 0, .string ⟨#[]⟩, .string ⟨#[]⟩, .slice none 0 0, .slice none 0 0] 27)) 55 #[.slice A n c, .int .i64 0]
      rwa [World.size_alloc, hp] at this
    · have := h.lt (by rw [h.1]; omega) hx
      omega
  have hB0 : Bk ((w.alloc (.cells #[.int .i64 0, .int .i64 0, .string ⟨#[]⟩, .string ⟨#[]⟩, .slice none 0 0, .slice none 0 0] 27)).alloc (.cells #[.slice A n c, .int .i64 0] 55)) p 27 #[.int .i64 0, .int .i64 0, .string ⟨#[]⟩, .string ⟨#[]⟩, .slice none 0 0, .slice none 0 0] := by rw [← hp]; exact (Bk.new _ _ _).alloc _
  have HC := Lib.hid (all_any (key_any 5) hR0 (by omega) (by omega) (by omega))
  have HB0 := Lib.hid hB0
  have HO0 := Lib.hid hO0
  have HS0 := Lib.hid hS0
  rw [parse_all]
  obtain ⟨G, hG⟩ : ∃ G, allK (keyD (prs 16) 5) (T.length + 1) T = G := ⟨_, rfl⟩
  rw [hG] at HC ⊢
  clear hG hR0 hB0 hO0 hS0 h ht hl
  have pre : ∀ w3, Only [p + 1] ((w.alloc (.cells #[.int .i64 0, .int .i64 0, .string ⟨#[]⟩, .string ⟨#[]⟩, .slice none 0 0, .slice none 0 0] 27)).alloc (.cells #[.slice A n c, .int .i64 0] 55)) w3 → Bk w3 p 27 #[.int .i64 0, .int .i64 0, .string ⟨#[]⟩, .string ⟨#[]⟩, .slice none 0 0, .slice none 0 0] ∧ Only [] w w3 := fun w3 o3 =>
    ⟨HB0.out.only o3 (fun hm => by simp at hm), HO0.out.trans o3 (fun x hx => .inr (by simp at hx; rw [hx, HP.out]; omega))⟩
  have PRE := Lib.hid pre
  clear pre
  cases G with
  | none =>
    have HN : Hid ((endK none).map andK = none) := rfl
    rw [HN.out]
    go_enter Tryd.func11, Tryd.ntmps11
    go_upto_region 3 with (go_at_call 22; refine HC.out.mono ?_; rintro e w3 ⟨kd, n1, s1, s2, SA, ns, sc, KA, nk, kc, bo, rfl, O3, HK3⟩; obtain ⟨B3, O3'⟩ := PRE.out _ O3; obtain ⟨hbo, d1, T1, _, _, hR3⟩ := HK3.out; subst hbo; clear hR3; clear HC)
    have BW := Lib.hid (B3.alloc (.cells #[.int .i64 kd, .int .i64 n1, .string s1, .string s2, .slice SA ns sc, .slice KA nk kc] 27))
    have KW := Lib.hid (Bk.new w3 27 #[.int .i64 kd, .int .i64 n1, .string s1, .string s2, .slice SA ns sc, .slice KA nk kc])
    have OW := Lib.hid (O3'.alloc (.cells #[.int .i64 kd, .int .i64 n1, .string s1, .string s2, .slice SA ns sc, .slice KA nk kc] 27))
    clear B3 O3 O3'
    generalize w3.alloc (.cells #[.int .i64 kd, .int .i64 n1, .string s1, .string s2, .slice SA ns sc, .slice KA nk kc] 27) = W at *
    obtain ⟨⟨q0, q1, q2, q3, q4, q5⟩, f0, f1, f2, f3, f4, f5⟩ := BW.out.six
    obtain ⟨⟨m0, m1, m2, m3, m4, m5⟩, _⟩ := KW.out.six
    have hpW := BW.out.lt
    go_wp2_with fail
    refine key_ret (s := 2) (u := 3) (by kernel_rfl) p _ rfl rfl (bk_store6 BW.out _ _ _ _ _ _) ?_
    exact ⟨_, _, _, _, _, _, _, _, _, _, _, rfl, only_store6 OW.out (.inr (by rw [HP.out]; exact Nat.le_refl _)) _ _ _ _ _ _, rfl, KyIs.noneK⟩
  | some pq =>
    obtain ⟨ks, q⟩ := pq
    cases q with
    | nil =>
      have HN : Hid ((endK (some (ks, []))).map andK = some (andK ks)) := rfl
      rw [HN.out]
      go_enter Tryd.func11, Tryd.ntmps11
      go_upto_region 3 with (go_at_call 22; refine HC.out.mono ?_; rintro e w3 ⟨kd, n1, s1, s2, SA, ns, sc, KA, nk, kc, bo, rfl, O3, HK3⟩; obtain ⟨B3, O3'⟩ := PRE.out _ O3; obtain ⟨hbo, hKY, hR3⟩ := HK3.out; subst hbo; clear HC)
      have BW := Lib.hid (B3.alloc (.cells #[.int .i64 kd, .int .i64 n1, .string s1, .string s2, .slice SA ns sc, .slice KA nk kc] 27))
      have KW := Lib.hid (Bk.new w3 27 #[.int .i64 kd, .int .i64 n1, .string s1, .string s2, .slice SA ns sc, .slice KA nk kc])
      have OW := Lib.hid (O3'.alloc (.cells #[.int .i64 kd, .int .i64 n1, .string s1, .string s2, .slice SA ns sc, .slice KA nk kc] 27))
      have RW := Lib.hid (hR3.keep ((Only.refl _ _).alloc (.cells #[.int .i64 kd, .int .i64 n1, .string s1, .string s2, .slice SA ns sc, .slice KA nk kc] 27)))
      have KYW := Lib.hid (KyIs.keep hKY ((Only.refl _ _).alloc (.cells #[.int .i64 kd, .int .i64 n1, .string s1, .string s2, .slice SA ns sc, .slice KA nk kc] 27)))
      have S3 : Hid (w3.heap.size ≤ (w3.alloc (.cells #[.int .i64 kd, .int .i64 n1, .string s1, .string s2, .slice SA ns sc, .slice KA nk kc] 27)).heap.size) := by show _ ≤ _; rw [World.size_alloc]; omega
      clear hR3 hKY
      clear B3 O3 O3'
      generalize w3.alloc (.cells #[.int .i64 kd, .int .i64 n1, .string s1, .string s2, .slice SA ns sc, .slice KA nk kc] 27) = W at *
      obtain ⟨⟨q0, q1, q2, q3, q4, q5⟩, f0, f1, f2, f3, f4, f5⟩ := BW.out.six
      obtain ⟨⟨m0, m1, m2, m3, m4, m5⟩, _⟩ := KW.out.six
      have hpW := BW.out.lt
      obtain ⟨A3, c3, k0, _⟩ := RW.out.cells
      replace k0 : W.cell? ⟨p + 1, 0, none⟩ = some (.slice A3 0 c3) := k0
      go_wp2_with fail
      refine key_ret (s := 2) (u := 3) (by kernel_rfl) p _ rfl rfl (bk_store6 BW.out _ _ _ _ _ _) ?_
      have o6 := only_store6 (g := p) (Only.refl [p] W) (.inl (by simp)) (.int .i64 kd) (.int .i64 n1) (.string s1) (.string s2) (.slice SA ns sc) (.slice KA nk kc)
      refine ⟨_, _, _, _, _, _, _, _, _, _, _, rfl, only_store6 OW.out (.inr (by rw [HP.out]; exact Nat.le_refl _)) _ _ _ _ _ _, rfl, ?_⟩
      refine KyIs.mono (fun x hx => ?_) (KyIs.only o6 (fun x hx hm => by have h1 := hx.1; have h2 := HS0.out; simp at hm; omega) KYW.out)
      have h1 := hx.1
      have h2 := HS0.out
      have h3 := hx.2
      have h4 := S3.out
      rw [HP.out]
      exact ⟨by omega, Nat.lt_of_lt_of_le (Nat.lt_of_lt_of_le h3 h4) o6.size⟩
    | cons t r =>
      have HN : Hid ((endK (some (ks, t :: r))).map andK = none) := rfl
      rw [HN.out]
      obtain ⟨m, hm⟩ : ∃ m, (t :: r).length = m + 1 := ⟨r.length, rfl⟩
      go_enter Tryd.func11, Tryd.ntmps11
      go_upto_region 3 with (go_at_call 22; refine HC.out.mono ?_; rintro e w3 ⟨kd, n1, s1, s2, SA, ns, sc, KA, nk, kc, bo, rfl, O3, HK3⟩; obtain ⟨B3, O3'⟩ := PRE.out _ O3; obtain ⟨hbo, hKY, hR3⟩ := HK3.out; subst hbo; clear HC)
      have BW := Lib.hid (B3.alloc (.cells #[.int .i64 kd, .int .i64 n1, .string s1, .string s2, .slice SA ns sc, .slice KA nk kc] 27))
      have KW := Lib.hid (Bk.new w3 27 #[.int .i64 kd, .int .i64 n1, .string s1, .string s2, .slice SA ns sc, .slice KA nk kc])
      have OW := Lib.hid (O3'.alloc (.cells #[.int .i64 kd, .int .i64 n1, .string s1, .string s2, .slice SA ns sc, .slice KA nk kc] 27))
      have RW := Lib.hid (hR3.keep ((Only.refl _ _).alloc (.cells #[.int .i64 kd, .int .i64 n1, .string s1, .string s2, .slice SA ns sc, .slice KA nk kc] 27)))
      clear hR3 hKY
      clear B3 O3 O3'
      generalize w3.alloc (.cells #[.int .i64 kd, .int .i64 n1, .string s1, .string s2, .slice SA ns sc, .slice KA nk kc] 27) = W at *
      obtain ⟨⟨q0, q1, q2, q3, q4, q5⟩, f0, f1, f2, f3, f4, f5⟩ := BW.out.six
      obtain ⟨⟨m0, m1, m2, m3, m4, m5⟩, _⟩ := KW.out.six
      have hpW := BW.out.lt
      obtain ⟨A3, c3, k0, _⟩ := RW.out.cells
      rw [hm] at k0
      clear hm
      go_wp2_with fail
      refine key_ret (s := 2) (u := 3) (by kernel_rfl) p _ rfl rfl (bk_store6 BW.out _ _ _ _ _ _) ?_
      exact ⟨_, _, _, _, _, _, _, _, _, _, _, rfl, only_store6 OW.out (.inr (by rw [HP.out]; exact Nat.le_refl _)) _ _ _ _ _ _, rfl, KyIs.noneK⟩
end Go.Proofs.YtkcnnbglmckmnaaDoor
namespace Go.Proofs.YtkcnnbglmckmnaaDoor
open Go.RowKit Go.Instr
theorem Gr.of_bks {w : World} {g k n : Nat} {t : TypeId} {cs : List Value} (h : Bk w g t cs.toArray) (hl : cs.length = n * k) : Gr k w (some ⟨g, 0, none⟩) n cs := by
  refine ⟨hl, fun _ => ⟨_, rfl, fun j u hu => ?_⟩⟩
  rw [add_none, Nat.zero_add, h.cell]
  simpa using hu
def fourB : List UInt8 := [102, 111, 117, 114]
theorem fourB_cells : (#[Value.int .u8 102, .int .u8 111, .int .u8 117, .int .u8 114] : Array Value).toList = bvs fourB := by kernel_rfl
def knownT : List Tkn := [(1, [85, 78, 83, 69, 69, 78]), (1, [108, 97, 114, 103, 101, 114]), (1, [51])]
def knownK : Ky := andK [notK (flagK 1), .mk 3 3 [] [] [] []]
theorem known_parse : parseK (prs 16) knownT = some knownK := by rfl
theorem known_yes : meansK ⟨1, 0, 0, fourB⟩ 1 1 1 knownK = true := by rfl
theorem known_no : meansK ⟨1, 1, 0, fourB⟩ 1 1 1 knownK = false := by rfl
theorem known_bd : BdK knownK := parse_bd (T := knownT) ⟨by decide, by decide⟩ known_parse
theorem four_bt (w : World) (fr : Nat × Nat) : Bt (w.alloc (.cells #[.int .u8 102, .int .u8 111, .int .u8 117, .int .u8 114] 5 fr)) (some ⟨w.heap.size, 0, none⟩) 4 4 fourB := by
  refine ⟨?_, Nat.le_refl _, by omega, fun e => nomatch e⟩
  have h := Sl.of_new w #[.int .u8 102, .int .u8 111, .int .u8 117, .int .u8 114] 5 fr
  rw [fourB_cells] at h
  exact h
set_option maxRecDepth 100000 in
set_option maxHeartbeats 2000000 in
theorem known_any (w : World) (hM : MaxF w) : Calls Tryd.prog 14 #[] w fun e w' => e = .returned (.bool true) ∧ Only [] w w' := by
  have hO0 : Only [] w (w.alloc (.cells #[.int .i64 1, .string ⟨#[85, 78, 83, 69, 69, 78]⟩, .int .i64 1, .string ⟨#[108, 97, 114, 103, 101, 114]⟩, .int .i64 1, .string ⟨#[51]⟩] 45)) := (Only.refl _ _).alloc _
  have hG : Gr 2 (w.alloc (.cells #[.int .i64 1, .string ⟨#[85, 78, 83, 69, 69, 78]⟩, .int .i64 1, .string ⟨#[108, 97, 114, 103, 101, 114]⟩, .int .i64 1, .string ⟨#[51]⟩] 45)) (some ⟨w.heap.size, 0, none⟩) 3 (gx tkl knownT) := Gr.of_bks (Bk.new _ _ _) rfl
  have hP := fParse_any (c := 3) hG rfl (Nat.le_refl _) (by omega) (by decide)
  rw [known_parse] at hP
  have HP := Lib.hid hP
  have HO0 := Lib.hid hO0
  have HM := Lib.hid hM
  clear hP hO0 hM hG
  have kc := fun (w : World) (C : Array Value) (n c g : Nat) (hg : g = w.heap.size) => Joins.run_convert_bytes_const_at (P := Tryd.prog) w 35 5 C n c g hg Tryd.underlying35 Tryd.underlying5
  go_enter Tryd.func14, Tryd.ntmps14
  go_wp2_with first
    | (go_at_call 11; refine HP.out.mono ?_; rintro e w1 ⟨kd, n1, s1, s2, SA, ns, sc, KA, nk, kc2, er, rfl, O1, HK1⟩; obtain ⟨her, hky⟩ := HK1.out; subst her; have k1 := Bk.new w1 27 #[.int .i64 kd, .int .i64 n1, .string s1, .string s2, .slice SA ns sc, .slice KA nk kc2]; have oa : Only [] w1 ((w1.alloc (.cells #[.int .i64 kd, .int .i64 n1, .string s1, .string s2, .slice SA ns sc, .slice KA nk kc2] 27)).alloc (.cells #[.int .u8 102, .int .u8 111, .int .u8 117, .int .u8 114] 5 (4, 5))) := (((Only.refl _ _).alloc _).alloc _); have hb := four_bt (w1.alloc (.cells #[.int .i64 kd, .int .i64 n1, .string s1, .string s2, .slice SA ns sc, .slice KA nk kc2] 27)) (4, 5); rw [World.size_alloc] at hb; have HC1 := Lib.hid (match_any (m := ⟨1, 0, 0, fourB⟩) (pl := 1) (la := 1) (lu := 1) knownK _ _ _ _ 4 4 (hky.keep oa) hb (by omega) (by intro x hx; simp at hx; rw [hx, World.size_alloc, World.size_alloc]; omega) (((HM.out.keep HO0.out).keep O1).keep oa) known_bd); rw [known_yes] at HC1; have HKY := Lib.hid hky; have O1 := Lib.hid O1; have OA := Lib.hid oa; have K1 := Lib.hid k1; clear hky k1 oa hb HK1 HP)
    | (go_at_call 16; refine HC1.out.mono ?_; rintro e w2 ⟨rfl, O2⟩; have k2 := (K1.out.alloc (.cells #[.int .u8 102, .int .u8 111, .int .u8 117, .int .u8 114] 5 (4, 5))).only O2 (fun hm => nomatch hm); obtain ⟨⟨q0, q1, q2, q3, q4, q5⟩, _⟩ := k2.six; have ob : Only [] w2 (w2.alloc (.cells #[.int .u8 102, .int .u8 111, .int .u8 117, .int .u8 114] 5 (4, 5))) := ((Only.refl _ _).alloc _); have hb := four_bt w2 (4, 5); have o12 := (OA.out.then O2).then ob; have HC2 := Lib.hid (match_any (m := ⟨1, 1, 0, fourB⟩) (pl := 1) (la := 1) (lu := 1) knownK _ _ _ _ 4 4 (HKY.out.keep o12) hb (by omega) (by intro x hx; simp at hx; rw [hx, World.size_alloc]; omega) (((HM.out.keep HO0.out).keep O1.out).keep o12) known_bd); rw [known_no] at HC2; have O12 := Lib.hid o12; have hlt2 := k2.lt; clear k2 ob hb o12 HC1 O2)
    | (go_at_call 16; refine HC2.out.mono ?_; rintro e w3 ⟨rfl, O3⟩; have O3 := Lib.hid O3; clear HC2)
  go_ret
  exact ⟨rfl, ((HO0.out.then O1.out).then O12.out).then O3.out⟩
end Go.Proofs.YtkcnnbglmckmnaaDoor
