/-
  head.Get.
-/
import Derived.Test.YtakehogenioobaaDoorHFields
import Derived.Test.YtakehogenioobaaDoorHSame
namespace Go.Proofs.YtakehogenioobaaDoor
open Go.RowKit Go.Instr

theorem fl_names (M : Nat) : ∀ (ts : List (List UInt8)) (st : Option (List UInt8 × List UInt8)), (∀ t ∈ ts, t.length ≤ M) → (∀ p, st = some p → p.1.length ≤ M) → ∀ p ∈ fl st ts, p.1.length ≤ M
  | [], st, _, h2, p, hp => by
    rw [fl_nil] at hp
    cases st with
    | none => cases hp
    | some q => rw [Option.toList_some, List.mem_singleton] at hp; rw [hp]; exact h2 q rfl
  | t :: r, st, h1, h2, p, hp => by
    have hr : ∀ x ∈ r, x.length ≤ M := fun x hx => h1 x (by simp [hx])
    cases hB : begB t with
    | true =>
      rw [fl_blank hB] at hp
      refine fl_names M r _ hr (fun q hq => ?_) p hp
      cases st with
      | none => cases hq
      | some q0 => simp at hq; rw [← hq]; exact h2 q0 rfl
    | false =>
      rw [fl_text hB, List.mem_append] at hp
      rcases hp with hp | hp
      · cases st with
        | none => cases hp
        | some q => rw [Option.toList_some, List.mem_singleton] at hp; rw [hp]; exact h2 q rfl
      · refine fl_names M r _ hr (fun q hq => ?_) p hp
        unfold fieldOf at hq
        split at hq
        · injection hq with hq
          rw [← hq]
          have h3 := trimB_len (t.take (cln t))
          have h4 := h1 t (by simp)
          rw [List.length_take] at h3
          show (trimB (t.take (cln t))).length ≤ M
          omega
        · cases hq
theorem fl_len : ∀ (ts : List (List UInt8)) (st : Option (List UInt8 × List UInt8)), (fl st ts).length ≤ ts.length + st.toList.length
  | [], st => by rw [fl_nil]; omega
  | t :: r, st => by
    cases hB : begB t with
    | true =>
      rw [fl_blank hB]
      have := fl_len r (st.map fun p => (p.1, p.2 ++ 32 :: trimB t))
      have h2 : (st.map fun p => (p.1, p.2 ++ 32 :: trimB t)).toList.length = st.toList.length := by cases st <;> rfl
      rw [List.length_cons]
      omega
    | false =>
      rw [fl_text hB, List.length_append]
      have := fl_len r (fieldOf t)
      have h2 : (fieldOf t).toList.length ≤ 1 := by cases fieldOf t <;> simp
      rw [List.length_cons]
      omega
theorem flds_len (l : List UInt8) : (flds l).length ≤ l.length := by
  rw [flds_texts]
  have h1 := fl_len (textsOf (l.take (hd l))) none
  have h2 : (textsOf (l.take (hd l))).length ≤ (l.take (hd l)).length := by unfold textsOf; rw [List.length_map]; exact lns_len _
  rw [List.length_take] at h2
  simp at h1
  omega
theorem texts_len {r t : List UInt8} (h : t ∈ textsOf r) : t.length ≤ r.length := by
  unfold textsOf at h
  obtain ⟨ln, h1, rfl⟩ := List.mem_map.1 h
  obtain ⟨k, hk, e⟩ := List.getElem_of_mem h1
  have h2 := sumK_succ (b := r) (k := k) (ln := ln) (by rw [List.getElem?_eq_getElem hk, e])
  have h3 := sumK_le r (k + 1)
  have h4 := tx_len ln
  omega
theorem flds_names {l : List UInt8} {p : List UInt8 × List UInt8} (h : p ∈ flds l) : p.1.length ≤ l.length := by
  rw [flds_texts] at h
  refine fl_names l.length _ none (fun t ht => ?_) (fun q hq => by cases hq) p h
  have := texts_len ht
  rw [List.length_take] at this
  omega
def findF (G : Fs) (name : List UInt8) : Option (List UInt8 × List UInt8) := G.find? fun p => sameT p.1 name
theorem findF_hit {G : Fs} {k : Nat} {name : List UInt8} (h : k < G.length) (hx : sameT G[k].1 name = true) : findF (G.drop k) name = some G[k] := by
  rw [List.drop_eq_getElem_cons h]
  unfold findF
  rw [List.find?_cons, hx]
theorem findF_miss {G : Fs} {k : Nat} {name : List UInt8} (h : k < G.length) (hx : sameT G[k].1 name = false) : findF (G.drop k) name = findF (G.drop (k + 1)) name := by
  rw [List.drop_eq_getElem_cons h]
  unfold findF
  rw [List.find?_cons, hx]

section
variable {w : World} {A : Option Addr} {n c : Nat} {l : List UInt8}
/-- What Get answers. -/
def Got (w : World) (r : Option (List UInt8)) (e : Ending) (w' : World) : Prop := ∃ t : ByteArray, e = .returned (.tuple #[.string t, .bool r.isSome]) ∧ Hid (t = St (r.getD [])) ∧ Only [] w w'
set_option maxRecDepth 100000 in
set_option maxHeartbeats 1000000 in
theorem Get_any (hs : Bt w A n c l) (hbig : n ≤ 4096) (hA : ∀ x ∈ blks A, x < w.heap.size) (s : ByteArray) (hss : s.size ≤ 4096) : Calls Tryd.prog 21 #[.slice A n c, .string s] w (Got w (getF l s.data.toList)) := by
  have hnl := hs.len
  have cF := Fields_any hs hbig hA
  have hgf : getF l s.data.toList = (findF (flds l) s.data.toList).map (·.2) := rfl
  have hnames : ∀ p ∈ flds l, p.1.length ≤ 4096 := fun p hp => by have := flds_names hp; omega
  obtain ⟨R, hR⟩ : ∃ R, getF l s.data.toList = R := ⟨_, rfl⟩
  rw [hR] at hgf ⊢
  obtain ⟨nm, hnm⟩ : ∃ nm, s.data.toList = nm := ⟨_, rfl⟩
  obtain ⟨G, hG⟩ : ∃ G, flds l = G := ⟨_, rfl⟩
  have hlenG : G.length ≤ 16777216 := by
    rw [← hG]
    have := flds_len l
    omega
  rw [hG] at cF hgf hnames
  rw [hnm] at hgf
  obtain ⟨m, hm⟩ : ∃ m, G.length = m := ⟨_, rfl⟩
  rw [hm] at cF hlenG
  have HGF := Lib.hid hgf
  have HNM := Lib.hid hnm
  have HM := Lib.hid hm
  have HNS := Lib.hid hnames
  clear hR hnm hG hm hgf hnames hs hnl
  go_enter Tryd.func21, Tryd.ntmps21
  go_wp2_with (go_at_call 29; (with_reducible refine cF.mono ?_); rintro e w1 ⟨A', c', rfl, hF, hO⟩)
  go_loopw [11] (fun i wr => ∃ k : Nat, k ≤ m ∧ i = .int .i64 (k : Int) ∧ Hid (findF (G.drop k) nm = findF G nm) ∧ Only [] w1 wr) (fun i _ => m - (intOf i).toNat)
  case atStart => exact ⟨0, Nat.zero_le _, rfl, rfl, Only.refl _ _⟩
  case round =>
    obtain ⟨k, hk, rfl, HK, hOr⟩ := hrel
    by_cases hlt : k < m
    · have hlt' : (k : Int) < (m : Int) := by omega
      have hkG : k < G.length := by rw [HM.out]; exact hlt
      obtain ⟨g, rfl, e1, e2⟩ := (hF.keep hOr).at_ hlt hkG
      have hnl := HNS.out _ (List.getElem_mem hkG)
      have hmiss := findF_miss (name := nm) hkG
      have hhit := findF_hit (name := nm) hkG
      obtain ⟨p, hp⟩ : ∃ p, G[k] = p := ⟨_, rfl⟩
      rw [hp] at e1 e2 hnl hmiss hhit
      obtain ⟨pn, pv⟩ := p
      simp only at e1 e2 hnl hmiss hhit
      have cS := fun w2 => Same_any (St pn) s (by rw [St_size]; exact hnl) hss w2
      rw [HNM.out, St_list] at cS
      obtain ⟨tn, htn⟩ : ∃ tn, St pn = tn := ⟨_, rfl⟩
      obtain ⟨tv, htv⟩ : ∃ tv, St pv = tv := ⟨_, rfl⟩
      rw [htn] at e1 cS
      rw [htv] at e2
      have HTV := Lib.hid htv
      cases hb : sameT pn nm with
      | true =>
        rw [hb] at cS
        have HE : Hid (R = some pv) := by
          show _ = _
          rw [HGF.out, ← HK.out, hhit hb]
          rfl
        clear hmiss hhit hp htn htv hb
        go_wp2_with (go_at_call 30; (with_reducible refine (cS _).mono ?_); rintro e w2 ⟨rfl, hO2⟩; have c2 : w2.cell? ⟨wr.heap.size, 1, none⟩ = some (.string tv) := (by rw [((Bk.new wr 58 #[.string tn, .string tv]).only hO2 (fun hm => nomatch hm)).cell]; rfl))
        go_ret2
        exact ⟨tv, by rw [HE.out]; rfl, by rw [HE.out]; exact HTV.out.symm, (hO.then hOr).then (((Only.refl [] wr).alloc _).then hO2)⟩
      | false =>
        rw [hb] at cS
        have HE : Hid (findF (G.drop (k + 1)) nm = findF G nm) := by
          show _ = _
          rw [← HK.out, hmiss hb]
        clear hmiss hhit hp htn htv hb
        go_wp2_with (go_at_call 30; (with_reducible refine (cS _).mono ?_); rintro e w2 ⟨rfl, hO2⟩)
        go_roundw
        case rel => exact ⟨k + 1, by omega, by go_num, HE, hOr.then (((Only.refl [] wr).alloc _).then hO2)⟩
        case measure => simp [intOf]; omega
    · obtain rfl : k = m := by omega
      have HE : Hid (R = none) := by
        show _ = _
        rw [HGF.out, ← HK.out, List.drop_of_length_le (by rw [HM.out]; exact Nat.le_refl _)]
        rfl
      go_wp2
      go_ret2
      exact ⟨_, by rw [HE.out]; rfl, by rw [HE.out]; rfl, hO.then hOr⟩
end
end Go.Proofs.YtakehogenioobaaDoor
