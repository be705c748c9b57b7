/-
  Texts of the seat, laid one behind the other: HGet NMath2 NRg NLeaf Quiet NHas ZBd Gst ZKy.
-/
import Derived.Test.YtkcnnbglmckmnaaDoorA5
import Derived.Test.YtkcnnbglmckmnaaDoorA2
import Derived.Lib.Join
import Derived.Test.YtkcnnbglmckmnaaDoorA1
import Derived.Test.YtkcnnbglmckmnaaDoorA3
import Derived.WalkKit
import Derived.Deep.QuietTactic
import Derived.BigQuiet
import Derived.Test.YtkcnnbglmckmnaaDoorA4
namespace Go.Proofs.YtkcnnbglmckmnaaDoor
open Go.RowKit Go.Instr
theorem fl_names (M : Nat) : ∀ (ts : List (List UInt8)) (st : Option (List UInt8 × List UInt8)), (∀ t ∈ ts, t.length ≤ M) → (∀ p, st = some p → p.1.length ≤ M) → ∀ p ∈ fl st ts, p.1.length ≤ M
  | [], st, _, h2, p, hp => by
    rw [fl_nil] at hp
    cases st with
    | none => cases hp
    | some q => rw [Option.toList_some, List.mem_singleton] at hp; rw [hp]; exact h2 q rfl
  | t :: r, st, h1, h2, p, hp => by
    have hr : ∀ x ∈ r, x.length ≤ M := fun x hx => h1 x (by simp [hx])
    cases hB : begB t with
    | true =>
      rw [fl_blank hB] at hp
      refine fl_names M r _ hr (fun q hq => ?_) p hp
      cases st with
      | none => cases hq
      | some q0 => simp at hq; rw [← hq]; exact h2 q0 rfl
    | false =>
      rw [fl_text hB, List.mem_append] at hp
      rcases hp with hp | hp
      · cases st with
        | none => cases hp
        | some q => rw [Option.toList_some, List.mem_singleton] at hp; rw [hp]; exact h2 q rfl
      · refine fl_names M r _ hr (fun q hq => ?_) p hp
        unfold fieldOf at hq
        split at hq
        · injection hq with hq
          rw [← hq]
          have h3 := trimB_len (t.take (cln t))
          have h4 := h1 t (by simp)
          rw [List.length_take] at h3
          show (trimB (t.take (cln t))).length ≤ M
          omega
        · cases hq
theorem fl_len : ∀ (ts : List (List UInt8)) (st : Option (List UInt8 × List UInt8)), (fl st ts).length ≤ ts.length + st.toList.length
  | [], st => by rw [fl_nil]; omega
  | t :: r, st => by
    cases hB : begB t with
    | true =>
      rw [fl_blank hB]
      have := fl_len r (st.map fun p => (p.1, p.2 ++ 32 :: trimB t))
      have h2 : (st.map fun p => (p.1, p.2 ++ 32 :: trimB t)).toList.length = st.toList.length := by cases st <;> rfl
      rw [List.length_cons]
      omega
    | false =>
      rw [fl_text hB, List.length_append]
      have := fl_len r (fieldOf t)
      have h2 : (fieldOf t).toList.length ≤ 1 := by cases fieldOf t <;> simp
      rw [List.length_cons]
      omega
theorem flds_len (l : List UInt8) : (flds l).length ≤ l.length := by
  rw [flds_texts]
  have h1 := fl_len (textsOf (l.take (hd l))) none
  have h2 : (textsOf (l.take (hd l))).length ≤ (l.take (hd l)).length := by unfold textsOf; rw [List.length_map]; exact lns_len _
  rw [List.length_take] at h2
  simp at h1
  omega
theorem texts_len {r t : List UInt8} (h : t ∈ textsOf r) : t.length ≤ r.length := by
  unfold textsOf at h
  obtain ⟨ln, h1, rfl⟩ := List.mem_map.1 h
  obtain ⟨k, hk, e⟩ := List.getElem_of_mem h1
  have h2 := sumK_succ (b := r) (k := k) (ln := ln) (by rw [List.getElem?_eq_getElem hk, e])
  have h3 := sumK_le r (k + 1)
  have h4 := tx_len ln
  omega
theorem flds_names {l : List UInt8} {p : List UInt8 × List UInt8} (h : p ∈ flds l) : p.1.length ≤ l.length := by
  rw [flds_texts] at h
  refine fl_names l.length _ none (fun t ht => ?_) (fun q hq => by cases hq) p h
  have := texts_len ht
  rw [List.length_take] at this
  omega
def findF (G : Fs) (name : List UInt8) : Option (List UInt8 × List UInt8) := G.find? fun p => sameT p.1 name
theorem findF_hit {G : Fs} {k : Nat} {name : List UInt8} (h : k < G.length) (hx : sameT G[k].1 name = true) : findF (G.drop k) name = some G[k] := by
  rw [List.drop_eq_getElem_cons h]
  unfold findF
  rw [List.find?_cons, hx]
theorem findF_miss {G : Fs} {k : Nat} {name : List UInt8} (h : k < G.length) (hx : sameT G[k].1 name = false) : findF (G.drop k) name = findF (G.drop (k + 1)) name := by
  rw [List.drop_eq_getElem_cons h]
  unfold findF
  rw [List.find?_cons, hx]
section
variable {w : World} {A : Option Addr} {n c : Nat} {l : List UInt8}
def Got (w : World) (r : Option (List UInt8)) (e : Ending) (w' : World) : Prop := ∃ t : ByteArray, e = .returned (.tuple #[.string t, .bool r.isSome]) ∧ Hid (t = St (r.getD [])) ∧ Only [] w w'
set_option maxRecDepth 100000 in
set_option maxHeartbeats 1000000 in
theorem Get_big (hs : Bt w A n c l) (hbig : n ≤ 4096) (hA : ∀ x ∈ blks A, x < w.heap.size) (s : ByteArray) (_ : s.size ≤ 140737488355328) : Calls Tryd.prog 28 #[.slice A n c, .string s] w (Got w (getF l s.data.toList)) := by
  have hnl := hs.len
  have cF := Fields_any hs hbig hA
  have hgf : getF l s.data.toList = (findF (flds l) s.data.toList).map (·.2) := rfl
  have hnames : ∀ p ∈ flds l, p.1.length ≤ 4096 := fun p hp => by have := flds_names hp; omega
  obtain ⟨R, hR⟩ : ∃ R, getF l s.data.toList = R := ⟨_, rfl⟩
  rw [hR] at hgf ⊢
  obtain ⟨nm, hnm⟩ : ∃ nm, s.data.toList = nm := ⟨_, rfl⟩
  obtain ⟨G, hG⟩ : ∃ G, flds l = G := ⟨_, rfl⟩
  have hlenG : G.length ≤ 16777216 := by
    rw [← hG]
    have := flds_len l
    omega
  rw [hG] at cF hgf hnames
  rw [hnm] at hgf
  obtain ⟨m, hm⟩ : ∃ m, G.length = m := ⟨_, rfl⟩
  rw [hm] at cF hlenG
  have HGF := Lib.hid hgf
  have HNM := Lib.hid hnm
  have HM := Lib.hid hm
  have HNS := Lib.hid hnames
  clear hR hnm hG hm hgf hnames hs hnl
  go_enter Tryd.func28, Tryd.ntmps28
  go_wp2_with (go_at_call 41; (with_reducible refine cF.mono ?_); rintro e w1 ⟨A', c', rfl, hF, hO⟩)
  go_loopw [11] (fun i wr => ∃ k : Nat, k ≤ m ∧ i = .int .i64 (k : Int) ∧ Hid (findF (G.drop k) nm = findF G nm) ∧ Only [] w1 wr) (fun i _ => m - (intOf i).toNat)
  case atStart => exact ⟨0, Nat.zero_le _, rfl, rfl, Only.refl _ _⟩
  case round =>
    obtain ⟨k, hk, rfl, HK, hOr⟩ := hrel
    by_cases hlt : k < m
    · have hlt' : (k : Int) < (m : Int) := by omega
      have hkG : k < G.length := by rw [HM.out]; exact hlt
      obtain ⟨g, rfl, e1, e2⟩ := (hF.keep hOr).at_ hlt hkG
      have hnl := HNS.out _ (List.getElem_mem hkG)
      have hmiss := findF_miss (name := nm) hkG
      have hhit := findF_hit (name := nm) hkG
      obtain ⟨p, hp⟩ : ∃ p, G[k] = p := ⟨_, rfl⟩
      rw [hp] at e1 e2 hnl hmiss hhit
      obtain ⟨pn, pv⟩ := p
      simp only at e1 e2 hnl hmiss hhit
      have cS := fun w2 => Same_big (St pn) s (by rw [St_size]; omega) w2
      rw [HNM.out, St_list] at cS
      obtain ⟨tn, htn⟩ : ∃ tn, St pn = tn := ⟨_, rfl⟩
      obtain ⟨tv, htv⟩ : ∃ tv, St pv = tv := ⟨_, rfl⟩
      rw [htn] at e1 cS
      rw [htv] at e2
      have HTV := Lib.hid htv
      cases hb : sameT pn nm with
      | true =>
        rw [hb] at cS
        have HE : Hid (R = some pv) := by
          show _ = _
          rw [HGF.out, ← HK.out, hhit hb]
          rfl
        clear hmiss hhit hp htn htv hb
        go_wp2_with (go_at_call 42; (with_reducible refine (cS _).mono ?_); rintro e w2 ⟨rfl, hO2⟩; have c2 : w2.cell? ⟨wr.heap.size, 1, none⟩ = some (.string tv) := (by rw [((Bk.new wr 79 #[.string tn, .string tv]).only hO2 (fun hm => nomatch hm)).cell]; rfl))
        go_ret2
        exact ⟨tv, by rw [HE.out]; rfl, by rw [HE.out]; exact HTV.out.symm, (hO.then hOr).then (((Only.refl [] wr).alloc _).then hO2)⟩
      | false =>
        rw [hb] at cS
        have HE : Hid (findF (G.drop (k + 1)) nm = findF G nm) := by
          show _ = _
          rw [← HK.out, hmiss hb]
        clear hmiss hhit hp htn htv hb
        go_wp2_with (go_at_call 42; (with_reducible refine (cS _).mono ?_); rintro e w2 ⟨rfl, hO2⟩)
        go_roundw
        case rel => exact ⟨k + 1, by omega, by go_num, HE, hOr.then (((Only.refl [] wr).alloc _).then hO2)⟩
        case measure => simp [intOf]; omega
    · obtain rfl : k = m := by omega
      have HE : Hid (R = none) := by
        show _ = _
        rw [HGF.out, ← HK.out, List.drop_of_length_le (by rw [HM.out]; exact Nat.le_refl _)]
        rfl
      go_wp2
      go_ret2
      exact ⟨_, by rw [HE.out]; rfl, by rw [HE.out]; rfl, hO.then hOr⟩
end
end Go.Proofs.YtkcnnbglmckmnaaDoor
namespace Go.Proofs.YtkcnnbglmckmnaaDoor
theorem head_cons {α : Type} {l : List α} {x : α} (h : l.head? = some x) : ∃ r, l = x :: r := by
  cases l with
  | nil => cases h
  | cons y r => injection h with h; subst h; exact ⟨r, rfl⟩
theorem col_not {c : UInt8} (h : (!colB c) = true) : (!comB c) = true := by
  simp only [colB, comB, Bool.not_eq_true', Bool.or_eq_false_iff] at h ⊢
  exact h.1
theorem colon_case {s z : List UInt8} (h : (s.dropWhile fun c => !colB c) = 58 :: z) :
    (s.take (ix 44 s)) = (s.takeWhile fun c => !colB c) ++ 58 :: (z.takeWhile fun c => !comB c) ∧ ix 58 (s.take (ix 44 s)) = (s.takeWhile fun c => !colB c).length ∧ s.drop (ix 44 s) = z.dropWhile fun c => !comB c := by
  have e : s = (s.takeWhile fun c => !colB c) ++ 58 :: z := by rw [← h]; exact (List.takeWhile_append_dropWhile).symm
  have hp := tw_all (fun c => !colB c) s
  have h2 := tw_two s
  rw [piece_eq, rest_eq]
  refine ⟨?_, ?_, ?_⟩
  · generalize (s.takeWhile fun c => !colB c) = p at e hp
    subst e
    rw [List.takeWhile_append_of_pos (fun x hx => col_not (List.all_eq_true.1 hp x hx)), List.takeWhile_cons, if_pos (by decide)]
  · unfold ix
    rw [h2]
  · generalize (s.takeWhile fun c => !colB c) = p at e hp
    subst e
    rw [List.dropWhile_append_of_pos (fun x hx => col_not (List.all_eq_true.1 hp x hx)), List.dropWhile_cons, if_pos (by decide)]
theorem plain_case {s : List UInt8} (h : (s.dropWhile fun c => !colB c).head? ≠ some 58) :
    (s.take (ix 44 s)) = (s.takeWhile fun c => !colB c) ∧ ix 58 (s.take (ix 44 s)) = (s.take (ix 44 s)).length ∧ s.drop (ix 44 s) = s.dropWhile fun c => !colB c := by
  have e : s = (s.takeWhile fun c => !colB c) ++ (s.dropWhile fun c => !colB c) := (List.takeWhile_append_dropWhile).symm
  have hp := tw_all (fun c => !colB c) s
  have hq : ∀ c, (s.dropWhile fun c => !colB c).head? = some c → c = 44 := fun c hc => by
    obtain ⟨r, hr⟩ := head_cons hc
    have h1 := dw_head _ s hr
    simp only [Bool.not_eq_false', colB, Bool.or_eq_true, beq_iff_eq] at h1
    rcases h1 with h1 | h1
    · exact h1
    · rw [hc, h1] at h; exact absurd rfl h
  have h2 := tw_two s
  have h1 : (s.takeWhile fun c => !comB c) = (s.takeWhile fun c => !colB c) ∧ (s.dropWhile fun c => !comB c) = (s.dropWhile fun c => !colB c) := by
    generalize (s.takeWhile fun c => !colB c) = p at e hp
    generalize (s.dropWhile fun c => !colB c) = q at e hq
    subst e
    rw [List.takeWhile_append_of_pos (fun x hx => col_not (List.all_eq_true.1 hp x hx)), List.dropWhile_append_of_pos (fun x hx => col_not (List.all_eq_true.1 hp x hx))]
    cases q with
    | nil => exact ⟨by simp, rfl⟩
    | cons c r =>
      obtain rfl := hq c rfl
      rw [List.takeWhile_cons, if_neg (by decide), List.dropWhile_cons, if_neg (by decide)]
      exact ⟨by simp, rfl⟩
  rw [piece_eq, rest_eq]
  refine ⟨h1.1, ?_, h1.2⟩
  unfold ix
  rw [h2, h1.1]
theorem rOf_colon {t a b : List UInt8} (h : t = a ++ 58 :: b) (hx : ix 58 t = a.length) : rOf t = if numL a = 0 ∨ numL b = 0 then none else some ((numL a : Int), (numL b : Int)) := by
  have h1 : ix 58 t < t.length := by rw [hx, h]; simp
  have h2 : t.take (ix 58 t) = a := by rw [hx, h, List.take_left]
  have h3 : t.drop (ix 58 t + 1) = b := by rw [hx, h, List.drop_append]; simp
  unfold rOf
  simp only [if_pos h1, h2, h3]
theorem rOf_plain {t : List UInt8} (hx : ix 58 t = t.length) : rOf t = if numL t = 0 then none else some ((numL t : Int), (numL t : Int)) := by
  have h1 : ¬ ix 58 t < t.length := by omega
  unfold rOf
  simp only [if_neg h1, or_self]
theorem rOf_first {s : List UInt8} (h : numL (s.takeWhile fun c => !colB c) = 0) : rOf (s.take (ix 44 s)) = none := by
  by_cases hc : (s.dropWhile fun c => !colB c).head? = some 58
  · obtain ⟨z, hz⟩ := head_cons hc
    obtain ⟨h1, h2, _⟩ := colon_case hz
    rw [rOf_colon h1 h2, if_pos (.inl h)]
  · obtain ⟨h1, h2, _⟩ := plain_case hc
    rw [rOf_plain h2, h1, if_pos h]
theorem rOf_second {s z : List UInt8} (hz : (s.dropWhile fun c => !colB c) = 58 :: z) (h : numL (z.takeWhile fun c => !comB c) = 0) : rOf (s.take (ix 44 s)) = none := by
  obtain ⟨h1, h2, _⟩ := colon_case hz
  rw [rOf_colon h1 h2, if_pos (.inr h)]
theorem head_58 {c : UInt8} : colB c = false → c ≠ 58 ∧ c ≠ 44 := fun h => by
  simp only [colB, Bool.or_eq_false_iff, beq_eq_false_iff_ne] at h
  exact ⟨h.2, h.1⟩
theorem one_cases (s : List UInt8) :
    (oneP s = none ∧ rOf (s.take (ix 44 s)) = none) ∨ ∃ r q, oneP s = some (r, q) ∧
      ((q = [] ∧ rOf (s.take (ix 44 s)) = some r ∧ ix 44 s = s.length) ∨ (∃ z, q = 44 :: z ∧ rOf (s.take (ix 44 s)) = some r ∧ ix 44 s < s.length ∧ s.drop (ix 44 s + 1) = z) ∨ (∃ c z, q = c :: z ∧ c ≠ 44 ∧ rOf (s.take (ix 44 s)) = none)) := by
  have fin : ∀ (q : List UInt8), s.drop (ix 44 s) = q → (q = [] → ix 44 s = s.length) ∧ ∀ z, q = 44 :: z → ix 44 s < s.length ∧ s.drop (ix 44 s + 1) = z := by
    intro q hq
    have hle := ix_le 44 s
    have hl := congrArg List.length hq
    rw [List.length_drop] at hl
    refine ⟨fun h => ?_, fun z h => ?_⟩
    · rw [h] at hl; simp at hl; omega
    · rw [h, List.length_cons] at hl
      refine ⟨by omega, ?_⟩
      rw [← List.drop_drop, hq, h]
      rfl
  unfold oneP
  cases h1 : numS s with
  | none => exact .inl ⟨rfl, rOf_first (numS_none sep_col h1)⟩
  | some p =>
    obtain ⟨a, s1⟩ := p
    simp only
    by_cases hc : s1.head? = some 58
    · obtain ⟨z, rfl⟩ := head_cons hc
      obtain ⟨k1, k2, k3⟩ := numS_stop sep_col h1 (fun c hc => by injection hc with hc; subst hc; rfl)
      obtain ⟨c1, c2, c3⟩ := colon_case k3
      rw [if_pos hc]
      simp only [List.drop_succ_cons, List.drop_zero]
      cases h2 : numS z with
      | none => exact .inl ⟨rfl, rOf_second k3 (numS_none sep_com h2)⟩
      | some p2 =>
        obtain ⟨b, s2⟩ := p2
        simp only
        refine .inr ⟨_, _, rfl, ?_⟩
        by_cases hq : ∀ c, s2.head? = some c → comB c = true
        · obtain ⟨m1, m2, m3⟩ := numS_stop sep_com h2 hq
          have hr : rOf (s.take (ix 44 s)) = some ((a : Int), (b : Int)) := by
            rw [rOf_colon c1 c2, k1, m1, if_neg (by omega)]
          obtain ⟨f1, f2⟩ := fin s2 (by rw [c3, m3])
          cases s2 with
          | nil => exact .inl ⟨rfl, hr, f1 rfl⟩
          | cons c r =>
            have := hq c rfl
            simp only [comB, beq_iff_eq] at this
            subst this
            exact .inr (.inl ⟨r, rfl, hr, f2 r rfl⟩)
        · cases s2 with
          | nil => exact absurd (fun c hc => by cases hc) hq
          | cons c r =>
            have hcf : comB c = false := by
              cases h : comB c with
              | false => rfl
              | true => exact absurd (fun x hx => by injection hx with hx; subst hx; exact h) hq
            exact .inr (.inr ⟨c, r, rfl, by simpa [comB] using hcf, rOf_second k3 (numS_go sep_com h2 hcf)⟩)
    · rw [if_neg hc]
      refine .inr ⟨_, _, rfl, ?_⟩
      by_cases hq : ∀ c, s1.head? = some c → colB c = true
      · obtain ⟨m1, m2, m3⟩ := numS_stop sep_col h1 hq
        obtain ⟨c1, c2, c3⟩ := plain_case (s := s) (by rw [m3]; exact hc)
        have hr : rOf (s.take (ix 44 s)) = some ((a : Int), (a : Int)) := by
          rw [rOf_plain c2, c1, m1, if_neg m2]
        obtain ⟨f1, f2⟩ := fin s1 (by rw [c3, m3])
        cases s1 with
        | nil => exact .inl ⟨rfl, hr, f1 rfl⟩
        | cons c r =>
          have := hq c rfl
          simp only [colB, Bool.or_eq_true, beq_iff_eq] at this
          rcases this with rfl | rfl
          · exact .inr (.inl ⟨r, rfl, hr, f2 r rfl⟩)
          · exact absurd rfl hc
      · cases s1 with
        | nil => exact absurd (fun c hc => by cases hc) hq
        | cons c r =>
          have hcf : colB c = false := by
            cases h : colB c with
            | false => rfl
            | true => exact absurd (fun x hx => by injection hx with hx; subst hx; exact h) hq
          exact .inr (.inr ⟨c, r, rfl, (head_58 hcf).2, rOf_first (numS_go sep_col h1 hcf)⟩)
def cm : List UInt8 → List (List UInt8)
  | [] => [[]]
  | c :: r => if c = 44 then [] :: cm r else match cm r with
    | [] => [[c]]
    | p :: q => (c :: p) :: q
theorem cm_ne : ∀ s, ∃ p q, cm s = p :: q
  | [] => ⟨_, _, rfl⟩
  | c :: r => by
    rw [cm]
    split
    · exact ⟨_, _, rfl⟩
    · split
      · exact ⟨_, _, rfl⟩
      · exact ⟨_, _, rfl⟩
theorem cm_len (s : List UInt8) : 1 ≤ (cm s).length := by
  obtain ⟨p, q, h⟩ := cm_ne s
  rw [h]; simp
theorem cm_step : ∀ s : List UInt8, cm s = if ix 44 s < s.length then s.take (ix 44 s) :: cm (s.drop (ix 44 s + 1)) else [s]
  | [] => by simp [cm, ix]
  | c :: r => by
    rw [ix_cons]
    by_cases h : c = 44
    · subst h
      simp [cm]
    · rw [cm, if_neg h, if_neg h, cm_step r]
      by_cases hi : ix 44 r < r.length
      · rw [if_pos hi, if_pos (by simp; omega)]
        simp
      · rw [if_neg hi, if_neg (by simp; omega)]
theorem cm_plain {s : List UInt8} (h : ∀ c ∈ s, c ≠ 44) : cm s = [s] := by
  rw [cm_step, if_neg]
  have : ix 44 s = s.length := by
    unfold ix
    rw [show (s.takeWhile fun c => !(c == 44)) = s from by
      have := List.takeWhile_append_of_pos (p := fun c => !(c == 44)) (l₁ := s) (l₂ := []) (fun x hx => by simp [h x hx])
      simpa using this]
  omega
def rgs : List (List UInt8) → Option (List Rg)
  | [] => some []
  | t :: r => match rOf t, rgs r with
    | some a, some l => some (a :: l)
    | _, _ => none
theorem rgs_bad {t : List UInt8} (h : rOf t = none) (r : List (List UInt8)) : rgs (t :: r) = none := by simp [rgs, h]
theorem rgs_len : ∀ (a : List (List UInt8)) (l : List Rg), rgs a = some l → l.length = a.length
  | [], l, h => by injection h with h; subst h; rfl
  | t :: r, l, h => by
    simp only [rgs] at h
    cases h1 : rOf t with
    | none => rw [h1] at h; cases h
    | some a =>
      cases h2 : rgs r with
      | none => rw [h1, h2] at h; cases h
      | some m =>
        rw [h1, h2] at h
        injection h with h
        subst h
        simp [rgs_len r m h2]
def prs (m : Nat) (s : List UInt8) : Option (List Rg) := if (cm s).length ≤ m then rgs (cm s) else none
theorem prs_zero (s : List UInt8) : prs 0 s = none := by
  unfold prs
  rw [if_neg (by have := cm_len s; omega)]
theorem cm_first (s : List UInt8) : ∃ q, cm s = s.take (ix 44 s) :: q := by
  rw [cm_step]
  have := ix_le 44 s
  split
  · exact ⟨_, rfl⟩
  · rw [List.take_of_length_le (by omega)]; exact ⟨_, rfl⟩
theorem prs_bad {s : List UInt8} (h : rOf (s.take (ix 44 s)) = none) (m : Nat) : prs m s = none := by
  unfold prs
  obtain ⟨q, hq⟩ := cm_first s
  rw [hq, rgs_bad h]
  simp
theorem prs_end {s : List UInt8} {r : Rg} (h : rOf (s.take (ix 44 s)) = some r) (he : ix 44 s = s.length) (m : Nat) : prs (m + 1) s = some [r] := by
  rw [List.take_of_length_le (by omega)] at h
  unfold prs
  rw [show cm s = [s] by rw [cm_step, if_neg (by omega)]]
  simp [rgs, h]
theorem prs_more {s z : List UInt8} {r : Rg} (h : rOf (s.take (ix 44 s)) = some r) (he : ix 44 s < s.length) (hz : s.drop (ix 44 s + 1) = z) (m : Nat) : prs (m + 1) s = (prs m z).map (r :: ·) := by
  unfold prs
  rw [cm_step, if_pos he, hz]
  simp only [List.length_cons, Nat.add_le_add_iff_right, rgs, h]
  split
  · cases rgs (cm z) <;> rfl
  · rfl
theorem prs_len {m : Nat} {s : List UInt8} {l : List Rg} (h : prs m s = some l) : 1 ≤ l.length ∧ l.length ≤ m ∧ l.length = (cm s).length := by
  unfold prs at h
  split at h
  · have := rgs_len _ _ h
    have := cm_len s
    omega
  · cases h
end Go.Proofs.YtkcnnbglmckmnaaDoor
namespace Go.Proofs.YtkcnnbglmckmnaaDoor
open Go.RowKit Go.Instr
def nxt (a : Addr) : Addr := ⟨a.block, a.off + 1, none⟩
def rvs (l : List Rg) : List Value := l.flatMap fun r => [.int .i64 r.1, .int .i64 r.2]
theorem rvs_len (l : List Rg) : (rvs l).length = l.length * 2 := by
  induction l with
  | nil => rfl
  | cons f r ih =>
    unfold rvs at ih ⊢
    rw [List.flatMap_cons, List.length_append, ih]
    simp
    omega
theorem rvs_append (a b : List Rg) : rvs (a ++ b) = rvs a ++ rvs b := by simp [rvs]
theorem rvs_get {l : List Rg} {k : Nat} (h : k < l.length) : (rvs l)[k * 2]? = some (.int .i64 l[k].1) ∧ (rvs l)[k * 2 + 1]? = some (.int .i64 l[k].2) := by
  have e : rvs l = rvs (l.take k) ++ rvs (l.drop k) := by rw [← rvs_append, List.take_append_drop]
  have hl : (rvs (l.take k)).length = k * 2 := by rw [rvs_len, List.length_take]; congr 1; omega
  rw [e, List.drop_eq_getElem_cons h]
  refine ⟨?_, ?_⟩
  · rw [List.getElem?_append_right (by omega), hl, Nat.sub_self]; rfl
  · rw [List.getElem?_append_right (by omega), hl, show k * 2 + 1 - k * 2 = 1 by omega]; rfl
def Rs (w : World) (A : Option Addr) (n : Nat) (l : List Rg) : Prop :=
  l.length = n ∧ (0 < n → ∃ ad, A = some ad ∧ ∀ (k : Nat) (r : Rg), l[k]? = some r → w.cell? (ad.add (k * 2)) = some (.int .i64 r.1) ∧ w.cell? (nxt (ad.add (k * 2))) = some (.int .i64 r.2))
section
variable {w w' : World} {A : Option Addr} {n c : Nat} {l : List Rg} {rs : List Nat}
theorem Rs.nil (w : World) (A : Option Addr) : Rs w A 0 [] := ⟨rfl, fun h => absurd h (by omega)⟩
theorem Rs.len (h : Rs w A n l) : l.length = n := h.1
theorem Rs.at_ (h : Rs w A n l) {k : Nat} (hk : k < n) (hk' : k < l.length) : ∃ ad, A = some ad ∧ w.cell? (ad.add (k * 2)) = some (.int .i64 l[k].1) ∧ w.cell? (nxt (ad.add (k * 2))) = some (.int .i64 l[k].2) := by
  obtain ⟨ad, e, hc⟩ := h.2 (by omega)
  exact ⟨ad, e, hc k _ (List.getElem?_eq_getElem hk')⟩
theorem Rs.only (h : Rs w A n l) (o : Only rs w w') (hd : ∀ x ∈ blks A, x ∉ rs) : Rs w' A n l :=
  ⟨h.1, fun hn => by
    obtain ⟨ad, rfl, hc⟩ := h.2 hn
    refine ⟨ad, rfl, fun k r hr => ⟨o.cellSome (hc k r hr).1 ?_, o.cellSome (hc k r hr).2 ?_⟩⟩
    · rw [add_block]; exact hd _ (by simp)
    · show (ad.add (k * 2)).block ∉ rs; rw [add_block]; exact hd _ (by simp)⟩
theorem Rs.keep (h : Rs w A n l) (o : Only [] w w') : Rs w' A n l := h.only o (fun _ _ hm => nomatch hm)
def Ro (w : World) (A : Option Addr) (n c : Nat) (l : List Rg) : Prop := l.length = n ∧ w.ownsRow 0 74 2 (.slice A n c) n (rvs l)
theorem Ro.nil (w : World) : Ro w none 0 0 [] := ⟨rfl, rfl, .inl ⟨rfl, rfl⟩⟩
theorem Ro.len (h : Ro w A n c l) : l.length = n := h.1
theorem Ro.only (h : Ro w A n c l) (o : Only rs w w') (hd : ∀ x ∈ blks A, x ∉ rs) : Ro w' A n c l :=
  ⟨h.1, own_only h.2 o (fun k hk => hd k (by
    cases A with
    | none => cases hk
    | some a => simp [Value.ownBlock] at hk; simp [hk]))⟩
theorem Ro.keep (h : Ro w A n c l) (o : Only [] w w') : Ro w' A n c l := h.only o (fun _ _ hm => nomatch hm)
theorem Ro.bk (h : Ro w A n c l) {k : Nat} (hk : k ∈ blks A) : ∃ cur, Bk w k 74 cur := by
  refine own_bk h.2 ?_
  cases A with
  | none => cases hk
  | some a => simp at hk; simp [Value.ownBlock, hk]
theorem Ro.lt (h : Ro w A n c l) {k : Nat} (hk : k ∈ blks A) : k < w.heap.size := by
  obtain ⟨cur, hc⟩ := h.bk hk
  exact hc.lt
theorem Ro.reads (h : Ro w A n c l) : Rs w A n l := by
  obtain ⟨h1, h2⟩ := h
  refine ⟨h1, fun hn => ?_⟩
  obtain ⟨bb, cap, hv, _, _⟩ := h2.form (by omega)
  have hA : A = some ⟨bb, 0, none⟩ := by injection hv
  subst hA
  refine ⟨_, rfl, fun k r hr => ?_⟩
  obtain ⟨hk, e⟩ := List.getElem?_eq_some_iff.1 hr
  obtain ⟨e1, e2⟩ := rvs_get hk
  rw [e] at e1 e2
  refine ⟨h2.cells (g := bb) rfl (k * 2) _ e1, ?_⟩
  have := h2.cells (g := bb) rfl (k * 2 + 1) _ e2
  rw [add_none] at this ⊢
  exact this
end
theorem infoRg : (Tryd.prog.info? 74).map (fun i => (i.zero, i.size, i.bytes)) = some (some (.agg #[.int .i64 0, .int .i64 0]), 2, 16) := by kernel_rfl
theorem run_append_rg {w : World} (ty : TypeId) (A : Option Addr) (n c : Nat) (l : List Rg) (h : Ro w A n c l) (a b : Int) (g2 : Nat) (t2 : TypeId) (hb : Bk w g2 t2 #[.int .i64 a, .int .i64 b]) (hn : n ≤ 1000000) :
    ∃ A' c' w', (Builtin.append_ #[24, 24] ty #[.slice A n c, .slice (some ⟨g2, 0, none⟩) 1 1]).run Tryd.prog w = .ok (.slice A' (n + 1) c') w' ∧ Ro w' A' (n + 1) c' (l ++ [(a, b)]) ∧ Only (blks A) w w' ∧ ∀ k ∈ blks A', k ∈ blks A ∨ w.heap.size ≤ k := by
  obtain ⟨i0, hi, hz0, hz1, hz2⟩ := info_parts infoRg
  obtain ⟨h1, h2⟩ := h
  obtain ⟨v', w', hrun, r1, r2, _, r4⟩ := run_append_own_at (P := Tryd.prog) w 0 24 ty 74 i0 (.agg #[.int .i64 0, .int .i64 0]) 2 16 Tryd.underlying24 hi hz0 hz1 hz2 rfl (by omega) _ n (rvs l) h2 ⟨g2, 0, none⟩ 1 1 [.int .i64 a, .int .i64 b] rfl (fun j u hu => by
    rw [add_none, Nat.zero_add, hb.cell]
    simpa using hu) (fun u hu => by simp at hu; rcases hu with rfl | rfl <;> rfl) (by unfold maxLen; omega) (by omega) (Nat.zero_le _)
  have hform : ∃ A' c', v' = .slice A' (n + 1) c' := by
    rcases r1.2 with ⟨_, h0⟩ | ⟨g, cap, cur, rfl, _⟩
    · omega
    · exact ⟨_, _, rfl⟩
  obtain ⟨A', c', rfl⟩ := hform
  refine ⟨A', c', w', hrun, ⟨by simp [h1], by rw [rvs_append]; exact r1⟩, ?_, fun k hk => ?_⟩
  · have := Only.of_grown r2
    cases A with
    | none => simpa [Value.ownBlock] using this
    | some a => simpa [Value.ownBlock] using this
  · cases A' with
    | none => cases hk
    | some a' =>
      simp only [blks_some, List.mem_singleton] at hk
      subst hk
      rcases r4 with r4 | r4
      · left
        cases A with
        | none => simp [Value.ownBlock] at r4
        | some a => simp [Value.ownBlock] at r4; simp [r4]
      · right
        simp [Value.ownBlock] at r4
        omega
theorem wpList_append_rg {ops : Array Oper} {rest : List Oper} {o : Oper} {a : Act} {w : World} {Q : Exit → Act → World → Prop} (hgd : o.guard = none) (s x : Operand)
    (ho : o.op = .call { callee := .builtin .append, args := #[s, x], argTypes := #[24, 24] }) (A : Option Addr) (n c : Nat) (l : List Rg) (hs : a.eval s = .slice A n c) (h : Ro w A n c l)
    (r1 r2 : Int) (g2 : Nat) (t2 : TypeId) (hx : a.eval x = .slice (some ⟨g2, 0, none⟩) 1 1) (hb : Bk w g2 t2 #[.int .i64 r1, .int .i64 r2]) (hn : n ≤ 1000000)
    (hK : ∀ A' c' w', Ro w' A' (n + 1) c' (l ++ [(r1, r2)]) → Only (blks A) w w' → (∀ k ∈ blks A', k ∈ blks A ∨ w.heap.size ≤ k) → wpList Tryd.prog ops Q rest (a.put o.dst (.slice A' (n + 1) c')) w') : wpList Tryd.prog ops Q (o :: rest) a w := by
  refine wpList_plain hgd fun K hK2 => ?_
  obtain ⟨A', c', w', hrun, k1, k2, k3⟩ := run_append_rg o.type A n c l h r1 r2 g2 t2 hb hn
  unfold Oper.wp execOp
  simp only [ho, resolve, invoke, builtin, Sem.run_bind, Sem.run_pure, Result.andThen_ok, List.map_toArray, List.map_cons, List.map_nil, hs, hx, hrun]
  exact hK2 _ _ (hK A' c' w' k1 k2 k3)
end Go.Proofs.YtkcnnbglmckmnaaDoor
namespace Go.Proofs.YtkcnnbglmckmnaaDoor
open Go.RowKit Go.Instr
def endV (n last : Int) : Int := if n = 1073741824 then last else n
def hasR (n last : Int) (r : Rg) : Bool := decide (min (endV r.1 last) (endV r.2 last) ≤ n) && decide (n ≤ max (endV r.1 last) (endV r.2 last))
def hasL (l : List Rg) (n last : Int) : Bool := decide (1 ≤ n) && l.any (hasR n last)
theorem end_any (n last : Int) (w : World) : Calls Tryd.prog 45 #[.int .i64 n, .int .i64 last] w fun e w' => e = .returned (.int .i64 (endV n last)) ∧ w = w' := by
  by_cases h : n = 1073741824
  · subst h
    go_enter Tryd.func45, Tryd.ntmps45
    go_wp2
    go_ret
    exact ⟨rfl, rfl⟩
  · have hb : (n == 1073741824) = false := beq_eq_false_iff_ne.2 h
    have hv : Hid (endV n last = n) := if_neg h
    clear h
    go_enter Tryd.func45, Tryd.ntmps45
    go_wp2
    go_ret
    exact ⟨by rw [hv.out]; rfl, rfl⟩
end Go.Proofs.YtkcnnbglmckmnaaDoor
namespace Go.Proofs.YtkcnnbglmckmnaaDoor
open Go.RowKit
theorem quiet_back {P : Program} {f : FuncId} {args : Array Value} {w : World} {n : Nat} {v : Value} (h : Calls P f args (w.drewN n) fun e w' => e = .returned v ∧ w.drewN n = w') :
    Calls P f args (w.drewN n) fun e w'' => e = .returned v ∧ ∃ m, w'' = w.drewN m :=
  h.mono fun _ _ ⟨he, hm⟩ => ⟨he, n, hm.symm⟩
end Go.Proofs.YtkcnnbglmckmnaaDoor
namespace Go.Proofs.YtkcnnbglmckmnaaDoor
open Go.RowKit Go.Instr
set_option maxHeartbeats 1000000 in
set_option maxRecDepth 100000 in
theorem Has1_any (a b n last : Int) (w : World) (pL pN : Addr) (hl : w.cell? pL = some (.int .i64 last)) (hn : w.cell? pN = some (.int .i64 n)) :
    Calls Tryd.prog 44 #[.agg #[.int .i64 a, .int .i64 b], .pointer (some pL), .pointer (some pN)] w fun e w' => e = .returned (.bool (hasR n last (a, b))) ∧ Only [] w w' := by
  have ca := fun W => end_any a last W
  have cb := fun W => end_any b last W
  have HE : Hid (hasR n last (a, b) = (decide (min (endV a last) (endV b last) ≤ n) && decide (n ≤ max (endV a last) (endV b last)))) := rfl
  have kl := block_lt_of_cell hl
  have kn := block_lt_of_cell hn
  generalize endV a last = x at ca HE
  generalize endV b last = y at cb HE
  go_enter Tryd.func44, Tryd.ntmps44
  go_wp2_with fail
  go_quiet (first
    | (go_at_call 45; with_reducible exact quiet_back (ca _))
    | (go_at_call 45; with_reducible exact quiet_back (cb _)))
  go_wp2_with fail
  · rename_i h
    go_ret
    exact ⟨by rw [HE.out, decide_eq_true h]; rfl, ((Only.refl _ _).alloc _).drewN _⟩
  · rename_i h
    go_ret
    exact ⟨by rw [HE.out, decide_eq_false (by omega)]; rfl, ((Only.refl _ _).alloc _).drewN _⟩
def Says (g : Nat) (lb : Array Value) (p : Rg → Bool) (w : World) : Prop := ∀ W, Only [] w W → ∀ a b : Int, Calls Tryd.prog g (#[.agg #[.int .i64 a, .int .i64 b]] ++ lb) W fun e w' => e = .returned (.bool (p (a, b))) ∧ Only [] W w'
theorem any_hit {l : List Rg} {p : Rg → Bool} {k : Nat} (h : k < l.length) (hx : p l[k] = true) : (l.drop k).any p = true := by
  rw [List.drop_eq_getElem_cons h, List.any_cons, hx]; rfl
theorem any_miss {l : List Rg} {p : Rg → Bool} {k : Nat} (h : k < l.length) (hx : p l[k] = false) : (l.drop k).any p = (l.drop (k + 1)).any p := by
  rw [List.drop_eq_getElem_cons h, List.any_cons, hx]; rfl
set_option maxRecDepth 100000 in
theorem IndexFunc_any {w : World} {A : Option Addr} {n c : Nat} {l : List Rg} (hs : Rs w A n l) (hn : n ≤ 140737488355328) (g : Nat) (lb : Array Value) (eg : ∀ args w, (callFunc g args).run Tryd.prog w = .ok (.enter g args) w) (p : Rg → Bool) (hp : Says g lb p w) :
    Calls Tryd.prog 67 #[.slice A n c, .func (.func g) #[] lb] w fun e w' => ∃ I : Int, e = .returned (.int .i64 I) ∧ Hid (decide (0 ≤ I) = l.any p) ∧ Only [] w w' := by
  have HS := Lib.hid hs
  have HLN := Lib.hid hs.len
  have HP := Lib.hid hp
  clear hs hp
  go_enter Tryd.func67, Tryd.ntmps67
  go_wp2
  go_loopw [8] (fun iv wr => Only [] w wr ∧ ∃ k : Nat, iv = .int .i64 (k : Int) ∧ k ≤ n ∧ Hid ((l.drop k).any p = l.any p)) (fun iv _ => n - (intOf iv).toNat)
  case atStart => exact ⟨Only.refl _ _, 0, rfl, by omega, rfl⟩
  case round =>
    obtain ⟨hO, k, rfl, hk, HK⟩ := hrel
    by_cases hlt : k < n
    · have hlt' : (k : Int) < (n : Int) := by omega
      have hkl : k < l.length := by rw [HLN.out]; exact hlt
      obtain ⟨ad, rfl, c1, c2⟩ := (HS.out.keep hO).at_ hlt hkl
      have hhit := any_hit (p := p) hkl
      have hmiss := any_miss (p := p) hkl
      obtain ⟨r, hr⟩ : ∃ r, l[k] = r := ⟨_, rfl⟩
      rw [hr] at c1 c2 hhit hmiss
      obtain ⟨a, b⟩ := r
      simp only [nxt] at c1 c2
      have hc := HP.out wr hO a b
      clear hr
      have hki : (k : Int) + 1 ≤ 140737488355328 := by omega
      obtain ⟨pb, hpb⟩ : ∃ q, p (a, b) = q := ⟨_, rfl⟩
      rw [hpb] at hc hmiss hhit
      cases pb
      · have HR : Hid (∃ k' : Nat, Value.int .i64 ((k : Int) + 1) = .int .i64 (k' : Int) ∧ k' ≤ n ∧ Hid ((l.drop k').any p = l.any p)) :=
          ⟨k + 1, by simp, by omega, by show _ = _; rw [← hmiss rfl, HK.out]⟩
        have HM : Hid (n - (intOf (.int .i64 ((k : Int) + 1))).toNat < n - (intOf (.int .i64 (k : Int))).toNat) := by
          show _ < _
          simp [intOf]
          omega
        clear hmiss hhit hpb
        go_wp2_with (go_at_fn g; with_reducible refine hc.mono ?_; rintro e w2 ⟨rfl, O2⟩)
        exact ⟨⟨hO.then O2, HR.out⟩, HM.out⟩
      · have HE : Hid (decide (0 ≤ (k : Int)) = l.any p) := by
          show _ = _
          rw [← HK.out, hhit rfl]
          exact decide_eq_true (by omega)
        clear hmiss hhit hpb
        go_wp2_with (go_at_fn g; with_reducible refine hc.mono ?_; rintro e w2 ⟨rfl, O2⟩)
        go_ret
        exact ⟨k, rfl, HE.out, hO.then O2⟩
    · obtain rfl : k = n := by omega
      have HE : Hid (decide ((0 : Int) ≤ -1) = l.any p) := by
        show _ = _
        rw [← HK.out, List.drop_of_length_le (by rw [HLN.out]; exact Nat.le_refl _)]
        rfl
      go_wp2
      go_ret
      exact ⟨-1, rfl, HE.out, hO⟩
theorem ContainsFunc_any {w : World} {A : Option Addr} {n c : Nat} {l : List Rg} (hs : Rs w A n l) (hn : n ≤ 140737488355328) (g : Nat) (lb : Array Value) (eg : ∀ args w, (callFunc g args).run Tryd.prog w = .ok (.enter g args) w) (p : Rg → Bool) (hp : Says g lb p w) :
    Calls Tryd.prog 43 #[.slice A n c, .func (.func g) #[] lb] w fun e w' => e = .returned (.bool (l.any p)) ∧ Only [] w w' := by
  have hI := IndexFunc_any (c := c) hs hn g lb eg p hp
  clear hs hp eg
  go_enter Tryd.func43, Tryd.ntmps43
  go_wp2_with (go_at_call 67; with_reducible refine hI.mono ?_; rintro e w2 ⟨I, rfl, HI, O2⟩)
  go_ret
  exact ⟨by rw [← HI.out]; rfl, O2⟩
theorem enters_Has1 : ∀ args w, (callFunc 44 args).run Tryd.prog w = .ok (.enter 44 args) w := Go.Proofs.enters_of Tryd.func44 (by kernel_rfl) rfl
set_option maxRecDepth 100000 in
theorem Has_any {w : World} {A : Option Addr} {n c : Nat} {l : List Rg} (hs : Rs w A n l) (hn : n ≤ 140737488355328) (x last : Int) :
    Calls Tryd.prog 29 #[.slice A n c, .int .i64 x, .int .i64 last] w fun e w' => e = .returned (.bool (hasL l x last)) ∧ Only [] w w' := by
  have HC : Hid (Calls Tryd.prog 43 #[.slice A n c, .func (.func 44) #[] #[.pointer (some ⟨w.heap.size + 1, 0, none⟩), .pointer (some ⟨w.heap.size, 0, none⟩)]] ((w.alloc (.cells #[.int .i64 x] 3)).alloc (.cells #[.int .i64 last] 3)) fun e w' => e = .returned (.bool (l.any (hasR x last))) ∧ Only [] w w') := by
    have o2 : Only [] w ((w.alloc (.cells #[.int .i64 x] 3)).alloc (.cells #[.int .i64 last] 3)) := ((Only.refl _ _).alloc _).alloc _
    refine (ContainsFunc_any (hs.keep o2) hn _ _ enters_Has1 (hasR x last) ?_).mono fun e w' ⟨h1, h2⟩ => ⟨h1, o2.then h2⟩
    intro W hO a b
    have b1 := Bk.new w 3 #[.int .i64 x]
    have b2 := Bk.new (w.alloc (.cells #[.int .i64 x] 3)) 3 #[.int .i64 last]
    rw [World.size_alloc] at b2
    have c1 := ((b1.alloc (.cells #[.int .i64 last] 3)).only hO (fun hm => nomatch hm)).cell 0
    have c2 := (b2.only hO (fun hm => nomatch hm)).cell 0
    exact Has1_any a b x last W _ _ c2 c1
  clear hs
  by_cases h : 1 ≤ x
  · have HE : Hid (hasL l x last = l.any (hasR x last)) := by
      show _ = _
      unfold hasL
      rw [decide_eq_true h]
      rfl
    go_enter Tryd.func29, Tryd.ntmps29
    go_wp2_with (go_at_call 43; with_reducible refine HC.out.mono ?_; rintro e w2 ⟨rfl, O2⟩)
    go_ret
    exact ⟨by rw [HE.out]; rfl, O2⟩
  · have HE : Hid (hasL l x last = false) := by
      show _ = _
      unfold hasL
      rw [decide_eq_false h]
      rfl
    clear HC
    go_enter Tryd.func29, Tryd.ntmps29
    go_wp2
    go_ret
    exact ⟨by rw [HE.out]; rfl, ((Only.refl _ _).alloc _).alloc _⟩
end Go.Proofs.YtkcnnbglmckmnaaDoor
namespace Go.Proofs.YtkcnnbglmckmnaaDoor
open Go.RowKit Go.Instr
theorem fl_vals (M : Nat) : ∀ (ts : List (List UInt8)) (st : Option (List UInt8 × List UInt8)) (V : Nat), (∀ t ∈ ts, t.length ≤ M) → (∀ q, st = some q → q.2.length ≤ V) → ∀ p ∈ fl st ts, p.2.length ≤ V + M + ts.length * (M + 1)
  | [], st, V, _, h2, p, hp => by
    rw [fl_nil] at hp
    cases st with
    | none => cases hp
    | some q => rw [Option.toList_some, List.mem_singleton] at hp; rw [hp]; have := h2 q rfl; omega
  | t :: r, st, V, h1, h2, p, hp => by
    have hr : ∀ x ∈ r, x.length ≤ M := fun x hx => h1 x (by simp [hx])
    have ht := h1 t (by simp)
    have e : (t :: r).length * (M + 1) = r.length * (M + 1) + (M + 1) := by rw [List.length_cons, Nat.add_mul, Nat.one_mul]
    rw [e]
    cases hB : begB t with
    | true =>
      rw [fl_blank hB] at hp
      have := fl_vals M r _ (V + M + 1) hr (fun q hq => by
        cases st with
        | none => cases hq
        | some q0 =>
          simp at hq
          rw [← hq]
          have h3 := h2 q0 rfl
          have h4 := trimB_len t
          simp only [List.length_append, List.length_cons]
          omega) p hp
      omega
    | false =>
      rw [fl_text hB, List.mem_append] at hp
      rcases hp with hp | hp
      · cases st with
        | none => cases hp
        | some q => rw [Option.toList_some, List.mem_singleton] at hp; rw [hp]; have := h2 q rfl; omega
      · have := fl_vals M r (fieldOf t) M hr (fun q hq => by
          unfold fieldOf at hq
          split at hq
          · injection hq with hq
            rw [← hq]
            have h3 := trimB_len (t.drop (cln t + 1))
            rw [List.length_drop] at h3
            show (trimB (t.drop (cln t + 1))).length ≤ M
            omega
          · cases hq) p hp
        omega
theorem getF_len {l nm v : List UInt8} (h : getF l nm = some v) (hl : l.length ≤ 4096) : v.length ≤ 20000000 := by
  unfold getF at h
  simp only [Option.map_eq_some_iff] at h
  obtain ⟨p, hp, rfl⟩ := h
  have hm := List.mem_of_find?_eq_some hp
  rw [flds_texts] at hm
  have hlen : (textsOf (l.take (hd l))).length ≤ 4096 := by
    have : (textsOf (l.take (hd l))).length ≤ (l.take (hd l)).length := by unfold textsOf; rw [List.length_map]; exact lns_len _
    rw [List.length_take] at this
    omega
  have := fl_vals 4096 _ none 0 (fun t ht => by
    have := texts_len ht
    rw [List.length_take] at this
    omega) (fun q hq => by cases hq) p hm
  have h2 : (textsOf (l.take (hd l))).length * (4096 + 1) ≤ 4096 * 4097 := Nat.mul_le_mul_right _ hlen
  omega
mutual
def BdK : Ky → Prop
  | .mk _ _ name text set kids => name.length ≤ 140737488355328 ∧ text.length ≤ 140737488355328 ∧ set.length ≤ 140737488355328 ∧ kids.length ≤ 140737488355328 ∧ BdKs kids
def BdKs : List Ky → Prop
  | [] => True
  | k :: r => BdK k ∧ BdKs r
end
theorem BdK.parts {k : Ky} (h : BdK k) : k.name.length ≤ 140737488355328 ∧ k.text.length ≤ 140737488355328 ∧ k.set.length ≤ 140737488355328 ∧ k.kids.length ≤ 140737488355328 ∧ BdKs k.kids := by
  cases k with
  | mk a b c d e l =>
    unfold BdK at h
    exact h
theorem BdKs.at_ : ∀ {l : List Ky}, BdKs l → ∀ y ∈ l, BdK y
  | k :: r, h, y, hy => by
    unfold BdKs at h
    rcases List.mem_cons.1 hy with rfl | hy
    · exact h.1
    · exact BdKs.at_ h.2 y hy
theorem BdKs.of : ∀ {l : List Ky}, (∀ y ∈ l, BdK y) → BdKs l
  | [], _ => by unfold BdKs; trivial
  | k :: r, h => by
    unfold BdKs
    exact ⟨h k (by simp), BdKs.of fun y hy => h y (by simp [hy])⟩
structure Mss where
  uid : Int
  flags : Int
  date : Int
  body : List UInt8
def flagB (flags n : Int) : Bool := bits .and .i64 flags n == n
def fieldB (body name text : List UInt8) : Bool := match getF body name with
  | none => false
  | some v => inT v text
def meansK (m : Mss) (place last lastUID : Int) (k : Ky) : Bool :=
  matchK (flagB m.flags) (m.body.length : Int) (fun t => inT m.body t) (fieldB m.body) (fun s => hasL s place last) (fun s => hasL s m.uid lastUID) k
def notFirst (f : Ky → Bool) : List Ky → Bool
  | [] => false
  | y :: _ => !f y
section
variable (m : Mss) (p l u : Int)
theorem means_eq (k : Ky) : meansK m p l u k =
    if k.kind = 1 then true else if k.kind = 2 then flagB m.flags k.n else if k.kind = 3 then decide (k.n < (m.body.length : Int)) else if k.kind = 4 then decide ((m.body.length : Int) < k.n) else if k.kind = 5 then inT m.body k.text
    else if k.kind = 6 then fieldB m.body k.name k.text else if k.kind = 7 then hasL k.set p l else if k.kind = 8 then hasL k.set m.uid u
    else if k.kind = 9 then notFirst (meansK m p l u) k.kids else if k.kind = 10 then (k.kids.take 2).any (meansK m p l u) else if k.kind = 11 then k.kids.all (meansK m p l u) else false := by
  cases k with
  | mk a b c d e ks =>
    unfold meansK
    rw [matchK]
    simp only [Ky.kind, Ky.n, Ky.name, Ky.text, Ky.set, Ky.kids]
    have hsome : ∀ n ks, someOf (flagB m.flags) (m.body.length : Int) (fun t => inT m.body t) (fieldB m.body) (fun s => hasL s p l) (fun s => hasL s m.uid u) n ks = (ks.take n).any (fun k => matchK (flagB m.flags) (m.body.length : Int) (fun t => inT m.body t) (fieldB m.body) (fun s => hasL s p l) (fun s => hasL s m.uid u) k) := by
      intro n ks
      induction ks generalizing n with
      | nil => cases n <;> simp [someOf]
      | cons y r ih =>
        cases n with
        | zero => simp [someOf]
        | succ n => simp [someOf, ih]
    have hall : ∀ ks, allOf (flagB m.flags) (m.body.length : Int) (fun t => inT m.body t) (fieldB m.body) (fun s => hasL s p l) (fun s => hasL s m.uid u) ks = ks.all (fun k => matchK (flagB m.flags) (m.body.length : Int) (fun t => inT m.body t) (fieldB m.body) (fun s => hasL s p l) (fun s => hasL s m.uid u) k) := by
      intro ks
      induction ks with
      | nil => simp [allOf]
      | cons y r ih => simp [allOf, ih]
    rw [hsome, hall]
    cases ks with
    | nil => rw [firstNot]; rfl
    | cons y r => rw [firstNot]; rfl
end
end Go.Proofs.YtkcnnbglmckmnaaDoor
namespace Go.Proofs.YtkcnnbglmckmnaaDoor
open Go.RowKit
theorem add_fld (ad : Addr) (i k : Nat) : (⟨(ad.add i).block, (ad.add i).off + (k + 1), none⟩ : Addr) = ad.add (i + (k + 1)) := by
  rw [← add_add]
  rfl
def One1 (xs : List Value) : Prop := ∀ u ∈ xs, u.oneCell' = true
def Gr (k : Nat) (w : World) (A : Option Addr) (n : Nat) (xs : List Value) : Prop := xs.length = n * k ∧ (0 < n → ∃ ad, A = some ad ∧ ∀ j u, xs[j]? = some u → w.cell? (ad.add j) = some u)
section
variable {w w' : World} {A : Option Addr} {k n c : Nat} {xs : List Value} {rs : List Nat} {T : TypeId}
theorem Gr.nil (k : Nat) (w : World) (A : Option Addr) : Gr k w A 0 [] := ⟨by simp, fun h => absurd h (by omega)⟩
theorem Gr.at_ (h : Gr k w A n xs) (hn : 0 < n) : ∃ ad, A = some ad ∧ ∀ j u, xs[j]? = some u → w.cell? (ad.add j) = some u := h.2 hn
theorem Gr.only (h : Gr k w A n xs) (o : Only rs w w') (hd : ∀ x ∈ blks A, x ∉ rs) : Gr k w' A n xs :=
  ⟨h.1, fun hn => by
    obtain ⟨ad, rfl, hc⟩ := h.2 hn
    exact ⟨ad, rfl, fun j u hu => o.cellSome (hc j u hu) (by rw [add_block]; exact hd _ (by simp))⟩⟩
theorem Gr.keep (h : Gr k w A n xs) (o : Only [] w w') : Gr k w' A n xs := h.only o (fun _ _ hm => nomatch hm)
theorem Gr.lt (h : Gr k w A n xs) (hn : 0 < xs.length) {x : Nat} (hx : x ∈ blks A) : x < w.heap.size := by
  obtain ⟨ad, rfl, hc⟩ := h.2 (by
    rcases Nat.eq_zero_or_pos n with h0 | h0
    · have := h.1; rw [h0] at this; omega
    · exact h0)
  simp only [blks_some, List.mem_singleton] at hx
  subst hx
  have := block_lt_of_cell (hc 0 (xs[0]'hn) (List.getElem?_eq_getElem _))
  rwa [add_block] at this
theorem Gr.pre (h : Gr k w A n xs) {j : Nat} (hj : j ≤ n) : Gr k w A j (xs.take (j * k)) := by
  refine ⟨by rw [List.length_take, h.1]; exact Nat.min_eq_left (Nat.mul_le_mul_right _ hj), fun hn => ?_⟩
  obtain ⟨ad, e, hc⟩ := h.2 (by omega)
  refine ⟨ad, e, fun i u hu => hc i u ?_⟩
  rw [List.getElem?_take] at hu
  split at hu
  · exact hu
  · cases hu
theorem Gr.cut (h : Gr k w A n xs) {j : Nat} (hj : j ≤ n) (hc : n ≤ c) : Gr k w (if c = j then A else A.map (·.add (j * k))) (n - j) (xs.drop (j * k)) := by
  refine ⟨by rw [List.length_drop, h.1, Nat.sub_mul], fun hn => ?_⟩
  obtain ⟨ad, rfl, hcell⟩ := h.2 (by omega)
  rw [if_neg (by omega)]
  refine ⟨ad.add (j * k), rfl, fun i u hu => ?_⟩
  rw [add_add]
  exact hcell _ u (by rw [← hu, List.getElem?_drop])
theorem Gr.of_bk {g : Nat} {t : TypeId} {cs : List Value} (h : Bk w g t cs.toArray) (hl : cs.length = k) : Gr k w (some ⟨g, 0, none⟩) 1 cs := by
  refine ⟨by omega, fun _ => ⟨_, rfl, fun j u hu => ?_⟩⟩
  rw [add_none, Nat.zero_add, h.cell]
  simpa using hu
def Gw (k : Nat) (w : World) (T : TypeId) (A : Option Addr) (n c : Nat) (xs : List Value) : Prop := w.ownsRow 0 T k (.slice A n c) n xs
theorem Gw.nil (k : Nat) (w : World) (T : TypeId) : Gw k w T none 0 0 [] := ⟨by simp, .inl ⟨rfl, rfl⟩⟩
theorem Gw.only (h : Gw k w T A n c xs) (o : Only rs w w') (hd : ∀ x ∈ blks A, x ∉ rs) : Gw k w' T A n c xs :=
  own_only h o (fun k hk => hd k (by
    cases A with
    | none => cases hk
    | some a => simp [Value.ownBlock] at hk; simp [hk]))
theorem Gw.keep (h : Gw k w T A n c xs) (o : Only [] w w') : Gw k w' T A n c xs := h.only o (fun _ _ hm => nomatch hm)
theorem Gw.len (h : Gw k w T A n c xs) : xs.length = n * k := h.1
theorem Gw.bk (h : Gw k w T A n c xs) {x : Nat} (hk : x ∈ blks A) : ∃ cur, Bk w x T cur := by
  refine own_bk h ?_
  cases A with
  | none => cases hk
  | some a => simp at hk; simp [Value.ownBlock, hk]
theorem Gw.lt (h : Gw k w T A n c xs) {x : Nat} (hk : x ∈ blks A) : x < w.heap.size := by
  obtain ⟨cur, hc⟩ := h.bk hk
  exact hc.lt
theorem Gw.cap (h : Gw k w T A n c xs) : n ≤ c := by
  rcases h.2 with ⟨hv, h0⟩ | ⟨g, cap, cur, hv, _, _, hc, _⟩
  · simp only [Value.slice.injEq] at hv; omega
  · simp only [Value.slice.injEq] at hv; omega
theorem Gw.reads (h : Gw k w T A n c xs) : Gr k w A n xs := by
  refine ⟨h.1, fun hn => ?_⟩
  obtain ⟨bb, cap, hv, _, _⟩ := World.ownsRow.form h hn
  have hA : A = some ⟨bb, 0, none⟩ := by injection hv
  subst hA
  exact ⟨_, rfl, fun j u hu => World.ownsRow.cells h (g := bb) rfl j u hu⟩
theorem Gw.free {g : Nat} (h : Gw k w T (some ⟨g, 0, none⟩) n c xs) (j : Nat) : w.frozen? ⟨g, j, none⟩ = false := World.ownsRow.frozenAt h _
theorem Gw.set {g : Nat} (h : Gw k w T (some ⟨g, 0, none⟩) n c xs) (j : Nat) (u : Value) : Gw k (w.setCell ⟨g, j, none⟩ u) T (some ⟨g, 0, none⟩) n c (xs.set j u) := (World.ownsRow.stored h j u).1
end
section
variable {P : Program} {w : World}
theorem run_append_gw (k : Nat) (st ty T : TypeId) (i : TypeInfo) (z : Value) (bytes : Nat) (ht : P.underlying st = some (.slice T)) (hi : P.info? T = some i) (hz : i.zero = some z) (hsize : i.size = k) (hby : i.bytes = bytes) (hzs : z.cells.size = k) (hk : 0 < k)
    (A : Option Addr) (n c : Nat) (l : List Value) (h : Gw k w T A n c l) (B : Option Addr) (m d : Nat) (t : List Value) (ht2 : Gr k w B m t) (h1 : One1 t) (h63 : n + m ≤ maxLen) (hbytes : (n + m) * bytes ≤ 140737488355328) :
    ∃ A' c' w', (Builtin.append_ #[st, st] ty #[.slice A n c, .slice B m d]).run P w = .ok (.slice A' (n + m) c') w' ∧ Gw k w' T A' (n + m) c' (l ++ t) ∧ Only (blks A) w w' ∧ ∀ x ∈ blks A', x ∈ blks A ∨ w.heap.size ≤ x := by
  have nothing : m = 0 → t = [] := fun h => List.eq_nil_of_length_eq_zero (by have := ht2.1; rw [h] at this; omega)
  cases B with
  | none =>
    have hm : m = 0 := by
      rcases Nat.eq_zero_or_pos m with h0 | h0
      · exact h0
      · obtain ⟨ad, h, _⟩ := ht2.2 h0
        cases h
    subst hm
    rw [nothing rfl]
    exact ⟨A, c, w, run_append_none' 0 st ty T i k ht hi _ n _ h d, by simpa using h, Only.refl _ _, fun k hk => .inl hk⟩
  | some ad =>
    have hcells : ∀ j u, t[j]? = some u → w.cell? (ad.add j) = some u := by
      intro j u hu
      rcases Nat.eq_zero_or_pos m with h0 | h0
      · rw [nothing h0] at hu
        simp at hu
      · obtain ⟨ad', h, hc⟩ := ht2.2 h0
        injection h with h
        subst h
        exact hc j u hu
    obtain ⟨v', w', hrun, r1, r2, _, r4⟩ := run_append_own_at (P := P) w 0 st ty T i z k bytes ht hi hz hsize hby hzs hk _ n l h ad m d t (by rw [ht2.1]) hcells h1 h63 hbytes (Nat.zero_le _)
    have hform : ∃ A' c', v' = .slice A' (n + m) c' := by
      rcases r1.2 with ⟨rfl, h0⟩ | ⟨g, cap, cur, rfl, _⟩
      · exact ⟨none, 0, by rw [h0]⟩
      · exact ⟨_, _, rfl⟩
    obtain ⟨A', c', rfl⟩ := hform
    refine ⟨A', c', w', hrun, r1, ?_, fun k hk => ?_⟩
    · have := Only.of_grown r2
      cases A with
      | none => simpa [Value.ownBlock] using this
      | some a => simpa [Value.ownBlock] using this
    · cases A' with
      | none => cases hk
      | some a' =>
        simp only [blks_some, List.mem_singleton] at hk
        subst hk
        rcases r4 with r4 | r4
        · left
          cases A with
          | none => simp [Value.ownBlock] at r4
          | some a => simp [Value.ownBlock] at r4; simp [r4]
        · right
          simp [Value.ownBlock] at r4
          omega
theorem wpList_append_gw {ops : Array Oper} {rest : List Oper} {o : Oper} {a : Act} {Q : Exit → Act → World → Prop} (hgd : o.guard = none) (s x : Operand) (k : Nat) (st : TypeId)
    (ho : o.op = .call { callee := .builtin .append, args := #[s, x], argTypes := #[st, st] }) (T : TypeId) (i : TypeInfo) (z : Value) (bytes : Nat) (ht : P.underlying st = some (.slice T)) (hi : P.info? T = some i) (hz : i.zero = some z) (hsize : i.size = k) (hby : i.bytes = bytes) (hzs : z.cells.size = k) (hk0 : 0 < k)
    (A : Option Addr) (n c : Nat) (l : List Value) (hs : a.eval s = .slice A n c) (h : Gw k w T A n c l) (B : Option Addr) (m d : Nat) (t : List Value) (hx : a.eval x = .slice B m d) (ht2 : Gr k w B m t) (h1 : One1 t) (h63 : n + m ≤ maxLen) (hbytes : (n + m) * bytes ≤ 140737488355328)
    (q : Nat) (hq : n + m = q) (hK : ∀ A' c' w', Gw k w' T A' q c' (l ++ t) → Only (blks A) w w' → (∀ x ∈ blks A', x ∈ blks A ∨ w.heap.size ≤ x) → wpList P ops Q rest (a.put o.dst (.slice A' q c')) w') : wpList P ops Q (o :: rest) a w := by
  subst hq
  refine wpList_plain hgd fun K hK2 => ?_
  obtain ⟨A', c', w', hrun, k1, k2, k3⟩ := run_append_gw k st o.type T i z bytes ht hi hz hsize hby hzs hk0 A n c l h B m d t ht2 h1 h63 hbytes
  unfold Oper.wp execOp
  simp only [ho, resolve, invoke, builtin, Sem.run_bind, Sem.run_pure, Result.andThen_ok, List.map_toArray, List.map_cons, List.map_nil, hs, hx, hrun]
  exact hK2 _ _ (hK A' c' w' k1 k2 k3)
end
section
variable {α : Type} {f : α → List Value} {k : Nat} {l : List α}
def gx (f : α → List Value) (l : List α) : List Value := l.flatMap f
theorem gx_cons (a : α) (l : List α) : gx f (a :: l) = f a ++ gx f l := by simp [gx]
theorem gx_append (a b : List α) : gx f (a ++ b) = gx f a ++ gx f b := by simp [gx]
theorem gx_one (a : α) : gx f [a] = f a := by simp [gx]
theorem gx_len (hf : ∀ a, (f a).length = k) : ∀ l : List α, (gx f l).length = l.length * k
  | [] => by simp [gx]
  | a :: r => by rw [gx_cons, List.length_append, hf, gx_len hf r, List.length_cons, Nat.succ_mul, Nat.add_comm]
theorem gx_drop (hf : ∀ a, (f a).length = k) (l : List α) (j : Nat) : gx f (l.drop j) = (gx f l).drop (j * k) := by
  rcases Nat.lt_or_ge l.length j with h | h
  · have h2 : (gx f l).length ≤ j * k := by rw [gx_len hf]; exact Nat.mul_le_mul_right _ (Nat.le_of_lt h)
    rw [List.drop_of_length_le (Nat.le_of_lt h), List.drop_of_length_le h2]; rfl
  · have e : gx f l = gx f (l.take j) ++ gx f (l.drop j) := by rw [← gx_append, List.take_append_drop]
    have hl : (gx f (l.take j)).length = j * k := by rw [gx_len hf, List.length_take, Nat.min_eq_left h]
    rw [e, ← hl, List.drop_left]
theorem gx_get (hf : ∀ a, (f a).length = k) {i j : Nat} (hi : i < l.length) (hj : j < k) : (gx f l)[i * k + j]? = (f l[i])[j]? := by
  have e : gx f l = gx f (l.take i) ++ (f l[i] ++ gx f (l.drop (i + 1))) := by
    rw [← gx_cons, ← List.drop_eq_getElem_cons hi, ← gx_append, List.take_append_drop]
  have hl : (gx f (l.take i)).length = i * k := by rw [gx_len hf, List.length_take, Nat.min_eq_left (by omega)]
  rw [e, List.getElem?_append_right (by omega), hl, Nat.add_sub_cancel_left, List.getElem?_append_left (by rw [hf]; exact hj)]
end
end Go.Proofs.YtkcnnbglmckmnaaDoor
namespace Go.Proofs.YtkcnnbglmckmnaaDoor
open Go.RowKit
mutual
def KyIs (K : Nat → Prop) (w : World) : Ky → List Value → Prop
  | .mk kind n name text set kids, vs => ∃ (SA : Option Addr) (ns sc : Nat) (KA : Option Addr) (nk kc : Nat) (xs : List Value), vs = [.int .i64 kind, .int .i64 n, .string (St name), .string (St text), .slice SA ns sc, .slice KA nk kc] ∧ Rs w SA ns set ∧ (∀ x ∈ blks SA, K x) ∧ Gr 6 w KA nk xs ∧ (∀ x ∈ blks KA, K x) ∧ kids.length = nk ∧ nk ≤ kc ∧ KysIs K w kids xs
def KysIs (K : Nat → Prop) (w : World) : List Ky → List Value → Prop
  | [], xs => xs = []
  | k :: r, xs => ∃ a b, xs = a ++ b ∧ KyIs K w k a ∧ KysIs K w r b
end
section
variable {K K' : Nat → Prop} {w w' : World} {rs : List Nat}
theorem KyIs.len {k : Ky} {vs : List Value} (h : KyIs K w k vs) : vs.length = 6 := by
  cases k with
  | mk a b c d e l =>
    unfold KyIs at h
    obtain ⟨_, _, _, _, _, _, _, rfl, _⟩ := h
    rfl
theorem KysIs.len : ∀ {l : List Ky} {xs : List Value}, KysIs K w l xs → xs.length = l.length * 6
  | [], xs, h => by
    unfold KysIs at h
    subst h
    rfl
  | k :: r, xs, h => by
    unfold KysIs at h
    obtain ⟨a, b, rfl, h1, h2⟩ := h
    rw [List.length_append, h1.len, KysIs.len h2, List.length_cons]
    omega
mutual
theorem KyIs.only (o : Only rs w w') (hd : ∀ x, K x → x ∉ rs) : ∀ {k : Ky} {vs : List Value}, KyIs K w k vs → KyIs K w' k vs
  | .mk a b c d e l, vs, h => by
    unfold KyIs at h ⊢
    obtain ⟨SA, ns, sc, KA, nk, kc, xs, h1, h2, h3, h4, h5, h6, h8, h7⟩ := h
    exact ⟨SA, ns, sc, KA, nk, kc, xs, h1, h2.only o (fun x hx => hd x (h3 x hx)), h3, h4.only o (fun x hx => hd x (h5 x hx)), h5, h6, h8, KysIs.only o hd h7⟩
theorem KysIs.only (o : Only rs w w') (hd : ∀ x, K x → x ∉ rs) : ∀ {l : List Ky} {xs : List Value}, KysIs K w l xs → KysIs K w' l xs
  | [], xs, h => by
    unfold KysIs at h ⊢
    exact h
  | k :: r, xs, h => by
    unfold KysIs at h ⊢
    obtain ⟨a, b, h1, h2, h3⟩ := h
    exact ⟨a, b, h1, KyIs.only o hd h2, KysIs.only o hd h3⟩
end
theorem KyIs.keep {k : Ky} {vs : List Value} (h : KyIs K w k vs) (o : Only [] w w') : KyIs K w' k vs := KyIs.only o (fun _ _ hm => nomatch hm) h
theorem KysIs.keep {l : List Ky} {xs : List Value} (h : KysIs K w l xs) (o : Only [] w w') : KysIs K w' l xs := KysIs.only o (fun _ _ hm => nomatch hm) h
mutual
theorem KyIs.mono (hk : ∀ x, K x → K' x) : ∀ {k : Ky} {vs : List Value}, KyIs K w k vs → KyIs K' w k vs
  | .mk a b c d e l, vs, h => by
    unfold KyIs at h ⊢
    obtain ⟨SA, ns, sc, KA, nk, kc, xs, h1, h2, h3, h4, h5, h6, h8, h7⟩ := h
    exact ⟨SA, ns, sc, KA, nk, kc, xs, h1, h2, fun x hx => hk x (h3 x hx), h4, fun x hx => hk x (h5 x hx), h6, h8, KysIs.mono hk h7⟩
theorem KysIs.mono (hk : ∀ x, K x → K' x) : ∀ {l : List Ky} {xs : List Value}, KysIs K w l xs → KysIs K' w l xs
  | [], xs, h => by
    unfold KysIs at h ⊢
    exact h
  | k :: r, xs, h => by
    unfold KysIs at h ⊢
    obtain ⟨a, b, h1, h2, h3⟩ := h
    exact ⟨a, b, h1, KyIs.mono hk h2, KysIs.mono hk h3⟩
end
theorem KysIs.nil : KysIs K w [] [] := by unfold KysIs; rfl
theorem KysIs.append : ∀ {l m : List Ky} {xs ys : List Value}, KysIs K w l xs → KysIs K w m ys → KysIs K w (l ++ m) (xs ++ ys)
  | [], m, xs, ys, h, h2 => by
    unfold KysIs at h
    subst h
    exact h2
  | k :: r, m, xs, ys, h, h2 => by
    unfold KysIs at h
    obtain ⟨a, b, rfl, h3, h4⟩ := h
    rw [List.cons_append, List.append_assoc]
    unfold KysIs
    exact ⟨a, b ++ ys, rfl, h3, KysIs.append h4 h2⟩
theorem KysIs.one {k : Ky} {vs : List Value} (h : KyIs K w k vs) : KysIs K w [k] vs := by
  unfold KysIs
  exact ⟨vs, [], by simp, h, KysIs.nil⟩
theorem KysIs.at_ : ∀ {l : List Ky} {xs : List Value} {i : Nat} (_ : KysIs K w l xs) (hi : i < l.length), KyIs K w l[i] ((xs.drop (i * 6)).take 6)
  | k :: r, xs, 0, h, _ => by
    unfold KysIs at h
    obtain ⟨a, b, rfl, h1, _⟩ := h
    have hl := h1.len
    rw [Nat.zero_mul, List.drop_zero, List.take_append_of_le_length (by omega), List.take_of_length_le (by omega)]
    exact h1
  | k :: r, xs, i + 1, h, hi => by
    unfold KysIs at h
    obtain ⟨a, b, rfl, h1, h2⟩ := h
    have hl := h1.len
    have e : (a ++ b).drop ((i + 1) * 6) = b.drop (i * 6) := by
      rw [show (i + 1) * 6 = a.length + i * 6 by omega, List.drop_append]
      simp
    rw [e]
    exact KysIs.at_ h2 (by simpa using hi)
structure KyCells (K : Nat → Prop) (w : World) (k : Ky) (vs : List Value) (SA : Option Addr) (ns sc : Nat) (KA : Option Addr) (nk kc : Nat) (xs : List Value) : Prop where
  cells : vs = [.int .i64 k.kind, .int .i64 k.n, .string (St k.name), .string (St k.text), .slice SA ns sc, .slice KA nk kc]
  set : Rs w SA ns k.set
  setK : ∀ x ∈ blks SA, K x
  row : Gr 6 w KA nk xs
  rowK : ∀ x ∈ blks KA, K x
  count : k.kids.length = nk
  cap : nk ≤ kc
  kids : KysIs K w k.kids xs
theorem KyIs.parts {k : Ky} {vs : List Value} (h : KyIs K w k vs) : ∃ SA ns sc KA nk kc xs, KyCells K w k vs SA ns sc KA nk kc xs := by
  cases k with
  | mk a b c d e l =>
    unfold KyIs at h
    obtain ⟨SA, ns, sc, KA, nk, kc, xs, h1, h2, h3, h4, h5, h6, h8, h7⟩ := h
    exact ⟨SA, ns, sc, KA, nk, kc, xs, h1, h2, h3, h4, h5, h6, h8, h7⟩
end
end Go.Proofs.YtkcnnbglmckmnaaDoor
