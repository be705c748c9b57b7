/-
  mime's mathematics: the messages that the laws lay. Nothing of the program stands here.
-/
import Derived.Test.YtakehogenioobaaDoorMMath
namespace Go.Proofs.YtakehogenioobaaDoor

def kdN : List UInt8 := [77, 117, 108, 116, 105, 112, 97, 114, 116, 47, 77, 105, 120, 101, 100]
def pmN : List UInt8 := [112, 114, 101, 97, 109, 98, 108, 101]
def bhN : List UInt8 := [98, 101, 104, 105, 110, 100]
def mk (bd : List UInt8) : List UInt8 := 45 :: 45 :: bd
def vMsg (kd q : List UInt8) : List UInt8 := kd ++ 59 :: ((32 :: bdN) ++ 61 :: q)
def hdO (v : List UInt8) : List UInt8 := ctN ++ 58 :: (32 :: v)
theorem hdO_field {v : List UInt8} : fieldOf (hdO v) = some (ctN, trimB v) := by
  unfold hdO
  rw [field_app _ (by decide), trim_lead, show trimB ctN = ctN by decide]
theorem hdO_ne (v : List UInt8) : hdO v ≠ [] := by unfold hdO; simp [ctN]
theorem hdO_beg (v : List UInt8) : begB (hdO v) = false := rfl
theorem hdO_10 {v : List UInt8} (h : ∀ x ∈ v, x ≠ 10) : ∀ x ∈ hdO v, x ≠ 10 := by
  intro x hx
  unfold hdO at hx
  rcases List.mem_append.1 hx with hx | hx
  · exact (show ∀ y ∈ ctN, y ≠ 10 by decide) x hx
  · rcases List.mem_cons.1 hx with rfl | hx
    · decide
    · rcases List.mem_cons.1 hx with rfl | hx
      · decide
      · exact h x hx
theorem hdO_vl {v : List UInt8} (h : ∀ x ∈ v, x ≠ 10) (rest : List UInt8) : vlOf (oneH (hdO v) rest) = trimB v := oneH_get (hdO_10 h) (hdO_ne v) (hdO_beg v) hdO_field (by decide) rest
section
variable {kd q bd : List UInt8}
theorem v_10 (hk10 : ∀ x ∈ kd, x ≠ 10) (hq10 : ∀ x ∈ q, x ≠ 10) : ∀ x ∈ vMsg kd q, x ≠ 10 := by
  intro x hx
  unfold vMsg at hx
  rcases List.mem_append.1 hx with hx | hx
  · exact hk10 x hx
  · rcases List.mem_cons.1 hx with rfl | hx
    · decide
    · rcases List.mem_append.1 hx with hx | hx
      · exact (show ∀ y ∈ (32 :: bdN : List UInt8), y ≠ 10 by decide) x hx
      · rcases List.mem_cons.1 hx with rfl | hx
        · decide
        · exact hq10 x hx
theorem v_trim (hkb : begB kd = false) (hkn : kd ≠ []) (hqb : ∀ x ∈ q, isB x = false) (hqn : q ≠ []) : trimB (vMsg kd q) = vMsg kd q := by
  refine trim_ends ?_ ?_
  · unfold vMsg
    cases kd with
    | nil => exact absurd rfl hkn
    | cons x r => exact hkb
  · have e : vMsg kd q = (kd ++ 59 :: ((32 :: bdN) ++ [61])) ++ q := by unfold vMsg; simp
    rw [e, List.reverse_append]
    cases hr : q.reverse with
    | nil => exact absurd (List.reverse_eq_nil_iff.1 hr) hqn
    | cons x r =>
      refine hqb x ?_
      rw [← List.mem_reverse, hr]; simp
theorem v_kn (hk59 : ∀ x ∈ kd, x ≠ 59) : knOf (vMsg kd q) = lows (trimB kd) := by
  unfold knOf vMsg
  rw [fi_app _ hk59, List.take_left]
theorem v_bd (hk59 : ∀ x ∈ kd, x ≠ 59) (hq59 : ∀ x ∈ q, x ≠ 59) (hqb : ∀ x ∈ q, isB x = false) (hb : bare q = bd) : bdOf (vMsg kd q) = bd := by
  have h1 : (vMsg kd q).drop (fi 59 (vMsg kd q) + 1) = (32 :: bdN) ++ 61 :: q := by
    unfold vMsg
    rw [fi_app _ hk59, ← List.drop_drop, List.drop_left]
    rfl
  have h2 : fi 61 ((32 :: bdN) ++ 61 :: q) = 9 := fi_app _ (by decide)
  unfold bdOf
  rw [h1, pcs_one, bnds, if_pos, h2, show ((32 :: bdN) ++ 61 :: q).drop (9 + 1) = q from rfl, trim_id hqb, hb]
  · unfold isBd
    rw [h2, show ((32 :: bdN) ++ 61 :: q).take 9 = 32 :: bdN from rfl, Bool.and_eq_true]
    exact ⟨decide_eq_true (by simp [bdN]), by decide⟩
  · intro y hy
    rcases List.mem_append.1 hy with hy | hy
    · exact (show ∀ y ∈ (32 :: bdN : List UInt8), y ≠ 59 by decide) y hy
    · rcases List.mem_cons.1 hy with rfl | hy
      · decide
      · exact hq59 y hy
/-- What kind such a message is. -/
theorem v_parts (hk10 : ∀ x ∈ kd, x ≠ 10) (hq10 : ∀ x ∈ q, x ≠ 10) (hkb : begB kd = false) (hkn : kd ≠ []) (hqb : ∀ x ∈ q, isB x = false) (hqn : q ≠ []) (hk59 : ∀ x ∈ kd, x ≠ 59) (hq59 : ∀ x ∈ q, x ≠ 59) (hb : bare q = bd) (hbn : bd ≠ []) (hm : mnOf (lows (trimB kd)) = muN) (rest : List UInt8) :
    parts (oneH (hdO (vMsg kd q)) rest) = pout (oneH (hdO (vMsg kd q)) rest) (mk bd) (hd (oneH (hdO (vMsg kd q)) rest)) (lns rest) := by
  have h10 := v_10 hk10 hq10
  have hv := hdO_vl h10 rest
  rw [v_trim hkb hkn hqb hqn] at hv
  have hB : tyB (oneH (hdO (vMsg kd q)) rest) = bd := by unfold tyB; rw [hv, v_bd hk59 hq59 hqb hb]
  have hM : tyM (oneH (hdO (vMsg kd q)) rest) = muN := by unfold tyM; rw [hv, v_kn hk59, hm]
  unfold parts mkOf
  rw [hB, hM, if_neg (by simp [hbn]), oneH_body (hdO_10 h10) (hdO_ne _)]
  rfl
end

/-- A boundary of the laws: letters and digits. -/
def isC (x : UInt8) : Prop := (97 ≤ x.toNat ∧ x.toNat ≤ 122) ∨ (48 ≤ x.toNat ∧ x.toNat ≤ 57)
theorem isC_ne {x y : UInt8} (h : isC x) (hy : ¬ isC y) : x ≠ y := fun e => hy (e ▸ h)
theorem isC_blank {x : UInt8} (h : isC x) : isB x = false := by
  have h1 : x ≠ 32 := isC_ne h (by unfold isC; decide)
  have h2 : x ≠ 9 := isC_ne h (by unfold isC; decide)
  unfold isB
  simp [h1, h2]
def qOf (bd : List UInt8) (z : Bool) : List UInt8 := if z = true then 34 :: (bd ++ [34]) else bd
theorem q_all {bd : List UInt8} (hbd : ∀ x ∈ bd, isC x) (z : Bool) {y : UInt8} (hy : ¬ isC y) (h34 : y ≠ 34) : ∀ x ∈ qOf bd z, x ≠ y := by
  intro x hx
  unfold qOf at hx
  split at hx
  · rcases List.mem_cons.1 hx with rfl | hx
    · exact fun e => h34 e.symm
    · rcases List.mem_append.1 hx with hx | hx
      · exact isC_ne (hbd x hx) hy
      · rw [List.mem_singleton.1 hx]; exact fun e => h34 e.symm
  · exact isC_ne (hbd x hx) hy
theorem q_blank {bd : List UInt8} (hbd : ∀ x ∈ bd, isC x) (z : Bool) : ∀ x ∈ qOf bd z, isB x = false := by
  intro x hx
  have h1 := q_all hbd z (y := 32) (by unfold isC; decide) (by decide) x hx
  have h2 := q_all hbd z (y := 9) (by unfold isC; decide) (by decide) x hx
  unfold isB
  simp [h1, h2]
theorem q_bare {bd : List UInt8} (hbd : ∀ x ∈ bd, isC x) (z : Bool) : bare (qOf bd z) = bd := by
  unfold bare qOf
  cases z with
  | false =>
    simp only [Bool.false_eq_true, if_false]
    rw [if_neg]
    rintro ⟨_, h, _⟩
    cases bd with
    | nil => simp [Lib.hasPrefix] at h
    | cons x r =>
      have h1 : x ≠ 34 := isC_ne (hbd x (by simp)) (by unfold isC; decide)
      simp [Lib.hasPrefix] at h
      exact h1 h.symm
  | true =>
    have hsf : Lib.hasSuffix (34 :: (bd ++ [34])) [34] = true := by
      unfold Lib.hasSuffix
      rw [List.isSuffixOf_iff_suffix]
      exact ⟨34 :: bd, by simp⟩
    rw [if_pos rfl, if_pos ⟨by simp, by simp [Lib.hasPrefix], hsf⟩]
    simp
theorem q_ne {bd : List UInt8} (z : Bool) (hne : bd ≠ []) : qOf bd z ≠ [] := by
  unfold qOf
  split
  · simp
  · exact hne

/-- The law's message of parts. -/
def tailOf (bd : List UInt8) : List (List UInt8) → List UInt8
  | [] => (mk bd ++ [45, 45]) ++ 13 :: 10 :: bhN
  | p :: ps => mk bd ++ 13 :: 10 :: (p ++ 13 :: 10 :: tailOf bd ps)
def msg (bd : List UInt8) (z : Bool) (ps : List (List UInt8)) : List UInt8 := oneH (hdO (vMsg kdN (qOf bd z))) (pmN ++ 13 :: 10 :: tailOf bd ps)
def NM (bd p : List UInt8) : Prop := ∀ l ∈ lns (p ++ [13, 10]), tx l ≠ mk bd ∧ tx l ≠ mk bd ++ [45, 45]
theorem lns_crlf {t : List UInt8} (h : ∀ x ∈ t, x ≠ 10) (r : List UInt8) : lns (t ++ 13 :: 10 :: r) = (t ++ [13, 10]) :: lns r := by
  have := lns_line (d := t ++ [13]) (fun x hx => by
    rcases List.mem_append.1 hx with hx | hx
    · exact h x hx
    · rw [List.mem_singleton.1 hx]; decide) r
  rw [List.append_assoc, List.append_assoc] at this
  exact this
theorem full_end (p : List UInt8) : Full (lns (p ++ [10])) := by
  have : ∀ ls : List (List UInt8), Good ls → (ls.flatten.getLast? = some 10 ∨ ls = []) → Full ls := by
    intro ls
    induction ls with
    | nil => intro _ _ l hl; cases hl
    | cons l r ih =>
      rintro ⟨⟨d, hd, hl⟩, hr⟩ hlast
      have hlast : (l :: r).flatten.getLast? = some 10 := by rcases hlast with h | h; exact h; cases h
      rcases hl with rfl | ⟨rfl, hn, rfl⟩
      · intro m hm
        rcases List.mem_cons.1 hm with rfl | hm
        · exact ⟨d, hd, rfl⟩
        · refine ih hr ?_ m hm
          rw [List.flatten_cons, List.getLast?_append] at hlast
          cases hg : r.flatten.getLast? with
          | none => 
            right
            cases r with
            | nil => rfl
            | cons a r2 =>
              have h0 := List.getLast?_eq_none_iff.1 hg
              obtain ⟨⟨d2, _, ha⟩, _⟩ := hr
              rw [List.flatten_cons] at h0
              have := (List.append_eq_nil_iff.1 h0).1
              rcases ha with rfl | ⟨rfl, hn2, _⟩
              · simp at this
              · exact absurd this hn2
          | some y =>
            left
            rw [hg] at hlast
            simpa using hlast
      · exfalso
        rw [List.flatten_cons, List.flatten_nil, List.append_nil] at hlast
        exact hd 10 (List.mem_of_getLast? hlast) rfl
  exact this _ (lns_good _) (.inl (by rw [lns_flat]; simp))
theorem lns_part (p r : List UInt8) : lns (p ++ 13 :: 10 :: r) = lns (p ++ [13, 10]) ++ lns r := by
  have h := lns_full (full_end (p ++ [13])) r
  rw [lns_flat, List.append_assoc, List.append_assoc] at h
  simpa using h
theorem mem_lns {b l : List UInt8} (h : l ∈ lns b) {x : UInt8} (hx : x ∈ l) : x ∈ b := by
  rw [← lns_flat b]
  exact List.mem_flatten.2 ⟨l, h, hx⟩
theorem mem_tx {l : List UInt8} {x : UInt8} (hx : x ∈ tx l) : x ∈ l := by
  obtain ⟨k, hk⟩ := tx_prefix l
  rw [hk] at hx
  exact List.mem_of_mem_take hx
theorem nm_dash {bd p : List UInt8} (h : ∀ x ∈ p, x ≠ 45) : NM bd p := by
  have key : ∀ l ∈ lns (p ++ [13, 10]), (45 : UInt8) ∉ tx l := by
    intro l hl hx
    rcases List.mem_append.1 (mem_lns hl (mem_tx hx)) with h1 | h1
    · exact h _ h1 rfl
    · exact absurd h1 (by decide)
  exact fun l hl => ⟨fun e => key l hl (by rw [e]; simp [mk]), fun e => key l hl (by rw [e]; simp [mk])⟩
theorem pin_pass (b m : List UInt8) : ∀ (ls r : List (List UInt8)) (f a k : Nat), (∀ l ∈ ls, tx l ≠ m ∧ tx l ≠ m ++ [45, 45]) → pin b m f a k (ls ++ r) = pin b m f (a + ls.flatten.length) k r
  | [], _, _, _, _, _ => by simp
  | l :: ls, r, f, a, k, h => by
    have h1 := h l (by simp)
    rw [List.cons_append, pin, if_neg (fun e => h1.1 e.1), if_neg h1.2, pin_pass b m ls r f _ k (fun x hx => h x (by simp [hx])), List.flatten_cons, List.length_append, Nat.add_assoc]
theorem tr_snoc (d : List UInt8) : tr (d ++ [13]) = d := trimSuffix_snoc d 13
theorem pl_crlf (p : List UInt8) : pl (p ++ [13, 10]) = p.length := by
  have h : Lib.hasSuffix (p ++ [13, 10]) [10] = true := by
    unfold Lib.hasSuffix
    rw [List.isSuffixOf_iff_suffix]
    exact ⟨p ++ [13], by simp⟩
  unfold pl
  rw [if_pos h, tx_crlf]
theorem sub_drop (b : List UInt8) (a n : Nat) : (b.take (a + n)).drop a = (b.drop a).take n := by
  rw [List.drop_take]
  congr 1
  omega
theorem prt_part {b p r : List UInt8} {a : Nat} (h : b.drop a = p ++ 13 :: 10 :: r) : prt b a (a + (p.length + 2)) = (a, a + p.length) ∧ subB b (a, a + p.length) = p := by
  constructor
  · unfold prt
    rw [sub_drop, h, show p ++ 13 :: 10 :: r = (p ++ [13, 10]) ++ r by simp, List.take_left' (by simp), pl_crlf]
  · unfold subB
    rw [sub_drop, h, List.take_left]
theorem mk_ne (bd : List UInt8) : mk bd ++ [45, 45] ≠ mk bd := fun e => by
  have := congrArg List.length e
  simp at this
theorem mk_10 {bd : List UInt8} (hbd : ∀ x ∈ bd, isC x) : ∀ x ∈ mk bd, x ≠ 10 := by
  intro x hx
  unfold mk at hx
  simp only [List.mem_cons] at hx
  rcases hx with rfl | rfl | hx
  · decide
  · decide
  · exact isC_ne (hbd x hx) (by unfold isC; decide)
theorem me_10 {bd : List UInt8} (hbd : ∀ x ∈ bd, isC x) : ∀ x ∈ mk bd ++ [45, 45], x ≠ 10 := by
  intro x hx
  rcases List.mem_append.1 hx with hx | hx
  · exact mk_10 hbd x hx
  · exact (show ∀ y ∈ ([45, 45] : List UInt8), y ≠ 10 by decide) x hx
theorem pin_msg {bd : List UInt8} (hbd : ∀ x ∈ bd, isC x) (b : List UInt8) : ∀ (ps : List (List UInt8)) (p : List UInt8) (k a : Nat), b.drop a = p ++ 13 :: 10 :: tailOf bd ps → NM bd p → (∀ p ∈ ps, NM bd p) → k + ps.length + 1 ≤ 16 → (pin b (mk bd) a a k (lns (b.drop a))).map (subB b) = p :: ps
  | [], p, k, a, h, hp, _, hk => by
    obtain ⟨e1, e2⟩ := prt_part h
    rw [h, lns_part, pin_pass b _ _ _ _ _ _ hp, lns_flat, tailOf, lns_crlf (me_10 hbd), pin, if_neg, if_pos tx_crlf]
    · rw [List.length_append, show ([13, 10] : List UInt8).length = 2 from rfl, e1]
      simp only [List.map_cons, List.map_nil, e2]
    · rintro ⟨e, _⟩
      rw [tx_crlf] at e
      exact mk_ne bd e
  | q :: ps, p, k, a, h, hp, hq, hk => by
    rw [List.length_cons] at hk
    obtain ⟨e1, e2⟩ := prt_part h
    have hd2 : b.drop (a + (p.length + 2) + (mk bd ++ [13, 10]).length) = q ++ 13 :: 10 :: tailOf bd ps := by
      rw [← List.drop_drop, ← List.drop_drop, h, show p ++ 13 :: 10 :: tailOf bd (q :: ps) = (p ++ [13, 10]) ++ tailOf bd (q :: ps) by simp, List.drop_left' (by simp), tailOf,
        show mk bd ++ 13 :: 10 :: (q ++ 13 :: 10 :: tailOf bd ps) = (mk bd ++ [13, 10]) ++ (q ++ 13 :: 10 :: tailOf bd ps) by simp, List.drop_left]
    have ih := pin_msg hbd b ps q (k + 1) _ hd2 (hq q (by simp)) (fun x hx => hq x (by simp [hx])) (by omega)
    rw [h, lns_part, pin_pass b _ _ _ _ _ _ hp, lns_flat, tailOf, lns_crlf (mk_10 hbd), pin, if_pos ⟨tx_crlf, by omega⟩, show (p ++ ([13, 10] : List UInt8)).length = p.length + 2 by simp, e1, List.map_cons, e2]
    rw [hd2] at ih
    rw [ih]
theorem msg_parts {bd : List UInt8} (hbd : ∀ x ∈ bd, isC x) (hne : bd ≠ []) (z : Bool) (ps : List (List UInt8)) (hps : ∀ p ∈ ps, NM bd p) (hlen : ps.length ≤ 16) : (parts (msg bd z ps)).map (subB (msg bd z ps)) = ps := by
  have hp := v_parts (kd := kdN) (q := qOf bd z) (bd := bd) (by decide) (q_all hbd z (by unfold isC; decide) (by decide)) (by decide) (by decide) (q_blank hbd z) (q_ne z hne) (by decide) (q_all hbd z (by unfold isC; decide) (by decide)) (q_bare hbd z) hne (by decide) (pmN ++ 13 :: 10 :: tailOf bd ps)
  have h10 : ∀ x ∈ hdO (vMsg kdN (qOf bd z)), x ≠ 10 := hdO_10 (v_10 (by decide) (q_all hbd z (by unfold isC; decide) (by decide)))
  have hb := oneH_body h10 (hdO_ne _) (pmN ++ 13 :: 10 :: tailOf bd ps)
  rw [← show msg bd z ps = oneH (hdO (vMsg kdN (qOf bd z))) (pmN ++ 13 :: 10 :: tailOf bd ps) from rfl] at hp hb
  obtain ⟨B, hB⟩ : ∃ B, msg bd z ps = B := ⟨_, rfl⟩
  rw [hB] at hp hb ⊢
  rw [hp, lns_crlf (by decide), pout, if_neg (by rw [tx_crlf]; intro e; have := congrArg List.head? e; simp [mk, pmN] at this), if_neg (by rw [tx_crlf]; intro e; have := congrArg List.head? e; simp [mk, pmN] at this)]
  cases ps with
  | nil => rw [tailOf, lns_crlf (me_10 hbd), pout, if_pos tx_crlf]; rfl
  | cons p r =>
    have hd2 : B.drop (hd B + (pmN ++ [13, 10]).length + (mk bd ++ [13, 10]).length) = p ++ 13 :: 10 :: tailOf bd r := by
      rw [← List.drop_drop, ← List.drop_drop, hb, show pmN ++ 13 :: 10 :: tailOf bd (p :: r) = (pmN ++ [13, 10]) ++ tailOf bd (p :: r) by simp, List.drop_left, tailOf,
        show mk bd ++ 13 :: 10 :: (p ++ 13 :: 10 :: tailOf bd r) = (mk bd ++ [13, 10]) ++ (p ++ 13 :: 10 :: tailOf bd r) by simp, List.drop_left]
    have h := pin_msg hbd B r p 0 _ hd2 (hps p (by simp)) (fun x hx => hps x (by simp [hx])) (by simpa using hlen)
    rw [tailOf, lns_crlf (mk_10 hbd), pout, if_neg (by rw [tx_crlf]; exact fun e => mk_ne bd e.symm), if_pos tx_crlf]
    rw [hd2] at h
    exact h

/-- Parts within parts. -/
theorem nm_msg {c c' : UInt8} (hc' : isC c') (hne : c ≠ c') (z : Bool) (ps : List (List UInt8)) (hps : ∀ p ∈ ps, NM [c] p) : NM [c] (msg [c'] z ps) := by
  have hb' : ∀ x ∈ ([c'] : List UInt8), isC x := fun x hx => by rw [List.mem_singleton.1 hx]; exact hc'
  have tail : ∀ (ps : List (List UInt8)), (∀ p ∈ ps, NM [c] p) → ∀ l ∈ lns (tailOf [c'] ps ++ [13, 10]), tx l ≠ mk [c] ∧ tx l ≠ mk [c] ++ [45, 45] := by
    intro ps
    induction ps with
    | nil =>
      intro _ l hl
      rw [tailOf, show (mk [c'] ++ [45, 45]) ++ 13 :: 10 :: bhN ++ [13, 10] = (mk [c'] ++ [45, 45]) ++ 13 :: 10 :: (bhN ++ 13 :: 10 :: []) by simp, lns_crlf (me_10 hb'), lns_crlf (by decide), lns_nil] at hl
      simp only [List.mem_cons, List.mem_nil_iff, or_false] at hl
      rcases hl with rfl | rfl
      · rw [tx_crlf]
        exact ⟨fun e => by simp [mk] at e, fun e => by simp [mk] at e; exact hne e.symm⟩
      · rw [tx_crlf]
        exact ⟨fun e => by simp [mk, bhN] at e, fun e => by simp [mk, bhN] at e⟩
    | cons p r ih =>
      intro h l hl
      rw [tailOf, show mk [c'] ++ 13 :: 10 :: (p ++ 13 :: 10 :: tailOf [c'] r) ++ [13, 10] = mk [c'] ++ 13 :: 10 :: (p ++ 13 :: 10 :: (tailOf [c'] r ++ [13, 10])) by simp, lns_crlf (mk_10 hb'), lns_part] at hl
      rcases List.mem_cons.1 hl with rfl | hl
      · rw [tx_crlf]
        exact ⟨fun e => by simp [mk] at e; exact hne e.symm, fun e => by simp [mk] at e⟩
      · rcases List.mem_append.1 hl with hl | hl
        · exact h p (by simp) l hl
        · exact ih (fun x hx => h x (by simp [hx])) l hl
  intro l hl
  have h10 : ∀ x ∈ hdO (vMsg kdN (qOf [c'] z)), x ≠ 10 := hdO_10 (v_10 (by decide) (q_all hb' z (by unfold isC; decide) (by decide)))
  have e : msg [c'] z ps ++ [13, 10] = hdO (vMsg kdN (qOf [c'] z)) ++ 13 :: 10 :: ([] ++ 13 :: 10 :: (pmN ++ 13 :: 10 :: (tailOf [c'] ps ++ [13, 10]))) := by simp [msg, oneH]
  rw [e, lns_crlf h10, lns_crlf (t := []) (by decide), lns_crlf (by decide)] at hl
  simp only [List.mem_cons] at hl
  rcases hl with rfl | rfl | rfl | hl
  · rw [tx_crlf]
    exact ⟨fun e => by simp [mk, hdO, ctN] at e, fun e => by simp [mk, hdO, ctN] at e⟩
  · rw [tx_crlf]
    exact ⟨fun e => by simp [mk] at e, fun e => by simp [mk] at e⟩
  · rw [tx_crlf]
    exact ⟨fun e => by simp [mk, pmN] at e, fun e => by simp [mk, pmN] at e⟩
  · exact tail ps hps l hl
def dC (i : Nat) : UInt8 := UInt8.ofNat (97 + i)
def dB (t : List UInt8) : Nat → List UInt8
  | 0 => 13 :: 10 :: t
  | i + 1 => msg [dC i] (i % 2 == 0) [[13, 10, 120], dB t i]
theorem dC_C {i : Nat} (h : i < 6) : isC (dC i) := by
  have : i = 0 ∨ i = 1 ∨ i = 2 ∨ i = 3 ∨ i = 4 ∨ i = 5 := by omega
  rcases this with rfl | rfl | rfl | rfl | rfl | rfl <;> (unfold isC dC; decide)
theorem dC_ne {i j : Nat} (h : i < j) (hj : j < 6) : dC j ≠ dC i := by
  intro e
  have := congrArg UInt8.toNat e
  unfold dC at this
  rw [UInt8.toNat_ofNat', UInt8.toNat_ofNat'] at this
  omega
theorem dB_nm {t : List UInt8} (ht : ∀ x ∈ t, 97 ≤ x.toNat ∧ x.toNat ≤ 122) : ∀ (i j : Nat), i ≤ j → j < 6 → NM [dC j] (dB t i)
  | 0, _, _, _ => nm_dash (fun x hx => by
    rw [dB] at hx
    simp only [List.mem_cons] at hx
    rcases hx with rfl | rfl | hx
    · decide
    · decide
    · rintro rfl
      have := ht _ hx
      simp at this)
  | i + 1, j, h, hj => by
    rw [dB]
    refine nm_msg (dC_C (by omega)) (dC_ne (by omega) hj) _ _ ?_
    intro p hp
    simp only [List.mem_cons, List.mem_nil_iff, or_false] at hp
    rcases hp with rfl | rfl
    · exact nm_dash (by decide)
    · exact dB_nm ht i j (by omega) hj
theorem dB_parts {t : List UInt8} (ht : ∀ x ∈ t, 97 ≤ x.toNat ∧ x.toNat ≤ 122) (i : Nat) (h : i < 6) : (parts (dB t (i + 1))).map (subB (dB t (i + 1))) = [[13, 10, 120], dB t i] := by
  rw [dB]
  refine msg_parts (fun x hx => by rw [List.mem_singleton.1 hx]; exact dC_C h) (by simp) _ _ (fun p hp => ?_) (by simp)
  simp only [List.mem_cons, List.mem_nil_iff, or_false] at hp
  rcases hp with rfl | rfl
  · exact nm_dash (by decide)
  · exact dB_nm ht i i (Nat.le_refl _) h
theorem dB_sec {t : List UInt8} (ht : ∀ x ∈ t, 97 ≤ x.toNat ∧ x.toNat ≤ 122) : ∀ (i : Nat), i ≤ 6 → sec (List.replicate i 2) (dB t i) = some (dB t 0)
  | 0, _ => rfl
  | i + 1, h => by
    have hp := dB_parts ht i (by omega)
    obtain ⟨ps, hps⟩ : ∃ ps, parts (dB t (i + 1)) = ps := ⟨_, rfl⟩
    rw [hps] at hp
    have hl : ps.length = 2 := by have := congrArg List.length hp; simpa using this
    match ps, hl with
    | [a, c], _ =>
      simp only [List.map_cons, List.map_nil, List.cons.injEq, and_true] at hp
      rw [List.replicate_succ, sec, hps, if_neg (by simp), if_neg (by simp)]
      rw [show ([a, c].getD ((2 : Int).toNat - 1) (0, 0)) = c from rfl, hp.2]
      exact dB_sec ht i (by omega)
theorem dB_cnt {t : List UInt8} (ht : ∀ x ∈ t, 97 ≤ x.toNat ∧ x.toNat ≤ 122) : ∀ (i D : Nat), i ≤ D → i ≤ 6 → cnt D (dB t i) = i + 1
  | 0, 0, _, _ => rfl
  | 0, D + 1, _, _ => by rw [cnt, dB, if_pos (parts_empty t).1]
  | i + 1, 0, h, _ => by omega
  | i + 1, D + 1, h, h6 => by
    have hp := dB_parts ht i (by omega)
    have hne : parts (dB t (i + 1)) ≠ [] := fun e => by rw [e] at hp; cases hp
    have e1 : cnt D [13, 10, 120] = 1 := by
      cases D with
      | zero => rfl
      | succ D => rw [cnt, if_pos (parts_empty [120]).1]
    rw [cnt, if_neg hne, show ((parts (dB t (i + 1))).map fun p => cnt D (subB (dB t (i + 1)) p)) = ((parts (dB t (i + 1))).map (subB (dB t (i + 1)))).map (cnt D) by rw [List.map_map]; rfl, hp]
    simp only [List.map_cons, List.map_nil, List.sum_cons, List.sum_nil, e1, dB_cnt ht i D (by omega) (by omega)]
    omega

/-- Many parts. -/
def mxN : List UInt8 := [109, 117, 108, 116, 105, 112, 97, 114, 116, 47, 120]
def rep : Nat → List UInt8
  | 0 => []
  | n + 1 => mk [113] ++ 13 :: 10 :: ([120] ++ 13 :: 10 :: rep n)
def many (n : Nat) : List UInt8 := oneH (hdO (vMsg mxN [113])) (rep n)
theorem pin_full (b m : List UInt8) : ∀ (ls : List (List UInt8)) (f a k : Nat), 16 ≤ k + 1 → (pin b m f a k ls).length = 1
  | [], f, a, k, _ => by rw [pin]; rfl
  | l :: r, f, a, k, h => by
    rw [pin, if_neg (by omega)]
    split
    · rfl
    · exact pin_full b m r f _ k h
theorem pin_many (b : List UInt8) : ∀ (n k a : Nat), b.drop a = [120] ++ 13 :: 10 :: rep n → k < 16 → (pin b (mk [113]) a a k (lns (b.drop a))).length = min (n + 1) (16 - k) ∧ (k + n + 1 ≤ 16 → ∀ p ∈ pin b (mk [113]) a a k (lns (b.drop a)), p.2 = p.1 + 1)
  | 0, k, a, h, hk => by
    obtain ⟨e1, e2⟩ := prt_part h
    rw [h, lns_part, pin_pass b _ _ _ _ _ _ (nm_dash (bd := [113]) (p := [120]) (by decide)), lns_flat, rep, lns_nil, pin]
    have e3 : prt b a (a + ([120] ++ [13, 10] : List UInt8).length) = (a, a + 1) := e1
    rw [e3]
    refine ⟨by simp; omega, fun _ p hp => ?_⟩
    rw [List.mem_singleton.1 hp]
  | n + 1, k, a, h, hk => by
    obtain ⟨e1, e2⟩ := prt_part h
    have e3 : prt b a (a + ([120] ++ [13, 10] : List UInt8).length) = (a, a + 1) := e1
    have hd2 : b.drop (a + ([120] ++ [13, 10] : List UInt8).length + (mk [113] ++ [13, 10]).length) = [120] ++ 13 :: 10 :: rep n := by
      rw [← List.drop_drop, ← List.drop_drop, h]
      rfl
    rw [h, lns_part, pin_pass b _ _ _ _ _ _ (nm_dash (bd := [113]) (p := [120]) (by decide)), lns_flat, rep, lns_crlf (by decide)]
    by_cases h2 : k + 1 < 16
    · have ih := pin_many b n (k + 1) _ hd2 h2
      rw [pin, if_pos ⟨tx_crlf, h2⟩, e3]
      rw [hd2] at ih
      refine ⟨?_, fun h3 p hp => ?_⟩
      · rw [List.length_cons, ih.1]; omega
      · rcases List.mem_cons.1 hp with rfl | hp
        · rfl
        · exact ih.2 (by omega) p hp
    · refine ⟨?_, fun h3 => by omega⟩
      rw [pin_full b _ _ _ _ _ (by omega)]
      omega
theorem many_parts (n : Nat) : (parts (many n)).length = min n 16 ∧ (n ≤ 16 → ∀ p ∈ parts (many n), p.2 = p.1 + 1) := by
  have hp := v_parts (kd := mxN) (q := [113]) (bd := [113]) (by decide) (by decide) (by decide) (by decide) (by decide) (by decide) (by decide) (by decide) (by decide) (by decide) (by decide) (rep n)
  have hb := oneH_body (d := hdO (vMsg mxN [113])) (by decide) (hdO_ne _) (rep n)
  rw [← show many n = oneH (hdO (vMsg mxN [113])) (rep n) from rfl] at hp hb
  obtain ⟨B, hB⟩ : ∃ B, many n = B := ⟨_, rfl⟩
  rw [hB] at hp hb ⊢
  rw [hp]
  cases n with
  | zero => rw [rep, lns_nil, pout]; exact ⟨rfl, fun _ p hp => nomatch hp⟩
  | succ n =>
    have hd2 : B.drop (hd B + (mk [113] ++ [13, 10]).length) = [120] ++ 13 :: 10 :: rep n := by
      rw [← List.drop_drop, hb]
      rfl
    have h := pin_many B n 0 _ hd2 (by omega)
    rw [rep, lns_crlf (by decide), pout, if_neg (by rw [tx_crlf]; decide), if_pos tx_crlf]
    rw [hd2] at h
    refine ⟨by rw [h.1], fun h3 => h.2 (by omega)⟩

/-- Kinds. -/
def uctN : List UInt8 := [67, 79, 78, 84, 69, 78, 84, 45, 84, 89, 80, 69]
theorem kn_clean {a : List UInt8} (ha : ∀ x ∈ a, isC x) : lows a = a := by
  unfold lows
  conv => rhs; rw [← List.map_id a]
  refine List.map_congr_left fun x hx => ?_
  have h := ha x hx
  unfold low
  rw [if_neg]
  · rfl
  · rintro ⟨h1, h2⟩
    rw [UInt8.le_iff_toNat_le] at h1 h2
    unfold isC at h
    have e1 : (65 : UInt8).toNat = 65 := rfl
    have e2 : (90 : UInt8).toNat = 90 := rfl
    omega
def tyA (a s m : List UInt8) : List UInt8 := oneH (uctN ++ 58 :: (32 :: 32 :: (a ++ 47 :: (s ++ 32 :: 59 :: 32 :: m)))) []
theorem types_one {a s m : List UInt8} (ha : ∀ x ∈ a, isC x) (hs : ∀ x ∈ s, isC x) (hm : ∀ x ∈ m, isC x) (han : a ≠ []) (hsn : s ≠ []) : tyM (tyA a s m) = a ∧ tyS (tyA a s m) = s ∧ tyB (tyA a s m) = [] := by
  have h10 : ∀ x ∈ uctN ++ 58 :: (32 :: 32 :: (a ++ 47 :: (s ++ 32 :: 59 :: 32 :: m))), x ≠ 10 := by
    have hC : ∀ {l : List UInt8}, (∀ x ∈ l, isC x) → ∀ x ∈ l, x ≠ 10 := fun h x hx => isC_ne (h x hx) (by unfold isC; decide)
    intro x hx
    rcases List.mem_append.1 hx with hx | hx
    · exact (show ∀ y ∈ uctN, y ≠ 10 by decide) x hx
    · simp only [List.mem_cons, List.mem_append] at hx
      rcases hx with rfl | rfl | rfl | hx | rfl | hx | rfl | rfl | rfl | hx
      any_goals decide
      · exact hC ha x hx
      · exact hC hs x hx
      · exact hC hm x hx
  have hne : uctN ++ 58 :: (32 :: 32 :: (a ++ 47 :: (s ++ 32 :: 59 :: 32 :: m))) ≠ [] := by simp [uctN]
  obtain ⟨v, hv⟩ : ∃ v, trimB (32 :: 32 :: (a ++ 47 :: (s ++ 32 :: 59 :: 32 :: m))) = v := ⟨_, rfl⟩
  have hvl := oneH_get (nm := uctN) (v := v) h10 hne rfl (by rw [field_app _ (by decide), show trimB uctN = uctN by decide, hv]) (by decide) []
  have hbeg : ∀ r, begB (a ++ r) = false := fun r => by
    cases a with
    | nil => exact absurd rfl han
    | cons x r2 => exact isC_blank (ha x (by simp))
  -- the value: its end may be trimmed, where nothing more stands
  have hv2 : ∃ r, v = (a ++ 47 :: (s ++ [32])) ++ 59 :: r ∧ (∀ x ∈ r, x = 32 ∨ isC x) := by
    rw [← hv, trim_lead, trim_lead]
    by_cases hme : m = []
    · subst hme
      refine ⟨[], ?_, fun x hx => nomatch hx⟩
      rw [← trim_swap, dw_ends (hbeg _)]
      unfold dropR
      simp [isB]
    · refine ⟨32 :: m, ?_, fun x hx => ?_⟩
      · rw [trim_ends (hbeg _)]
        · simp
        · have e : a ++ 47 :: (s ++ 32 :: 59 :: 32 :: m) = (a ++ 47 :: (s ++ [32, 59, 32])) ++ m := by simp
          rw [e, List.reverse_append]
          cases hr : m.reverse with
          | nil => exact absurd (List.reverse_eq_nil_iff.1 hr) hme
          | cons x r =>
            refine isC_blank (hm x ?_)
            rw [← List.mem_reverse, hr]; simp
      · rcases List.mem_cons.1 hx with rfl | hx
        · exact .inl rfl
        · exact .inr (hm x hx)
  obtain ⟨r, hv3, hr⟩ := hv2
  have h59 : ∀ x ∈ a ++ 47 :: (s ++ [32]), x ≠ 59 := by
    intro x hx
    simp only [List.mem_cons, List.mem_append, List.mem_nil_iff, or_false] at hx
    rcases hx with hx | rfl | hx | rfl
    · exact isC_ne (ha x hx) (by unfold isC; decide)
    · decide
    · exact isC_ne (hs x hx) (by unfold isC; decide)
    · decide
  have hfi : fi 59 v = (a ++ 47 :: (s ++ [32])).length := by rw [hv3]; exact fi_app r h59
  have htk : v.take (fi 59 v) = a ++ 47 :: (s ++ [32]) := by rw [hfi, hv3, List.take_left]
  have hdr : v.drop (fi 59 v + 1) = r := by
    rw [hfi, hv3, ← List.drop_drop, List.drop_left]
    rfl
  have htrim : trimB (a ++ 47 :: (s ++ [32])) = a ++ 47 :: s := by
    rw [← trim_swap, dw_ends (hbeg _), show a ++ 47 :: (s ++ [32]) = (a ++ 47 :: s) ++ [32] by simp]
    unfold dropR
    rw [List.reverse_append, show ([32] : List UInt8).reverse = [32] from rfl, List.singleton_append, List.dropWhile_cons, if_pos (by decide), dw_ends, List.reverse_reverse]
    rw [show a ++ 47 :: s = (a ++ [47]) ++ s by simp, List.reverse_append]
    cases hr : s.reverse with
    | nil => exact absurd (List.reverse_eq_nil_iff.1 hr) hsn
    | cons x r =>
      refine isC_blank (hs x ?_)
      rw [← List.mem_reverse, hr]; simp
  have hkn : knOf v = a ++ 47 :: s := by
    unfold knOf
    rw [htk, htrim]
    unfold lows
    rw [List.map_append, List.map_cons]
    rw [show a.map low = a from kn_clean ha, show s.map low = s from kn_clean hs]
    rfl
  have h47 : fi 47 (a ++ 47 :: s) = a.length := fi_app s (fun y hy => isC_ne (ha y hy) (by unfold isC; decide))
  have ht47 : (a ++ 47 :: s).take a.length = a := List.take_left
  have hd47 : (a ++ 47 :: s).drop (a.length + 1) = s := by rw [← List.drop_drop, List.drop_left]; rfl
  have hno : ¬ (a = [] ∨ s = []) := by rintro (h | h); exact han h; exact hsn h
  unfold tyM tyS tyB tyA
  rw [hvl, hkn]
  unfold mnOf sbOf bdOf
  rw [h47, ht47, hd47, if_neg hno, if_neg hno, hdr, pcs_one, bnds, if_neg, bnds]
  · exact ⟨rfl, rfl, rfl⟩
  · unfold isBd
    rw [fi_none]
    · simp
    · intro y hy
      rcases hr y hy with rfl | h
      · decide
      · exact isC_ne h (by unfold isC; decide)
  · intro y hy
    rcases hr y hy with rfl | h
    · decide
    · exact isC_ne h (by unfold isC; decide)
theorem types_two {a : List UInt8} (ha : ∀ x ∈ a, isC x) : tyM (oneH (hdO a) []) = txN ∧ tyS (oneH (hdO a) []) = plN ∧ tyB (oneH (hdO a) []) = [] := by
  have hv := hdO_vl (v := a) (fun x hx => isC_ne (ha x hx) (by unfold isC; decide)) []
  rw [trim_id (fun x hx => isC_blank (ha x hx))] at hv
  have h59 : fi 59 a = a.length := fi_none (fun y hy => isC_ne (ha y hy) (by unfold isC; decide))
  have hkn : knOf a = a := by
    unfold knOf
    rw [h59, List.take_length, trim_id (fun x hx => isC_blank (ha x hx)), kn_clean ha]
  have h47 : fi 47 a = a.length := fi_none (fun y hy => isC_ne (ha y hy) (by unfold isC; decide))
  have hd : a.drop (a.length + 1) = [] := List.drop_of_length_le (by omega)
  unfold tyM tyS tyB
  rw [hv, hkn]
  unfold mnOf sbOf bdOf
  rw [h47, h59, hd, if_pos (.inr rfl), if_pos (.inr rfl)]
  exact ⟨rfl, rfl, by decide⟩
/-- No kind: one letter. -/
theorem ty_x : tyM [120] = txN ∧ tyS [120] = plN ∧ tyB [120] = [] ∧ cnt 4 [120] = 1 := by
  have hv : vlOf [120] = [] := by decide
  have h1 : tyM [120] = txN := by unfold tyM; rw [hv]; decide
  refine ⟨h1, by unfold tyS; rw [hv]; decide, by unfold tyB; rw [hv]; decide, ?_⟩
  rw [cnt, if_pos]
  unfold parts
  rw [h1, if_pos (.inl (by decide))]
end Go.Proofs.YtakehogenioobaaDoor
