/-
  The law HeadNone.
-/
import Derived.Test.YtmameghebikjbaaDoorHRefG
import Derived.Test.YtmameghebikjbaaDoorHKnown
namespace Go.Proofs.YtmameghebikjbaaDoor
open Go.RowKit Go.Instr
section
variable {w : World} {A : Option Addr} {n c : Nat} {l : List UInt8}
theorem Get_as (hs : Bt w A n c l) (hbig : n ≤ 4096) (hA : ∀ x ∈ blks A, x < w.heap.size) (s : ByteArray) (hss : s.size ≤ 4096) (t : ByteArray) (b : Bool) (ht : St ((getF l s.data.toList).getD []) = t) (hb : (getF l s.data.toList).isSome = b) : Calls Tryd.prog 26 #[.slice A n c, .string s] w fun e w' => e = .returned (.tuple #[.string t, .bool b]) ∧ Only [] w w' :=
  (Get_any hs hbig hA s hss).mono fun e w' ⟨u, he, hu, ho⟩ => by subst ht hb; rw [he, hu.out]; exact ⟨rfl, ho⟩
theorem refGet_as (hs : Bt w A n c l) (hbig : n ≤ 4096) (hA : ∀ x ∈ blks A, x < w.heap.size) (s : ByteArray) (hss : s.size ≤ 4096) (t : ByteArray) (b : Bool) (ht : St ((getF l s.data.toList).getD []) = t) (hb : (getF l s.data.toList).isSome = b) : Calls Tryd.prog 27 #[.slice A n c, .string s] w fun e w' => e = .returned (.tuple #[.string t, .bool b]) ∧ Only [] w w' :=
  (refGet_any hs hbig hA s hss).mono fun e w' ⟨u, he, hu, ho⟩ => by subst ht hb; rw [he, hu.out]; exact ⟨rfl, ho⟩
theorem blks_keep {w w' : World} {A : Option Addr} {rs : List Nat} (h : ∀ x ∈ blks A, x < w.heap.size) (o : Only rs w w') : ∀ x ∈ blks A, x < w'.heap.size := fun x hx => Nat.lt_of_lt_of_le (h x hx) o.size
set_option maxRecDepth 100000 in
set_option maxHeartbeats 1000000 in
theorem none_any (A : Option Addr) (n c : Nat) (l : List UInt8) (s : ByteArray) (w : World) (hs : Bt w A n c l) (hA : ∀ x ∈ blks A, x < w.heap.size) (_ : s.size ≤ maxLen) :
    Calls Tryd.prog 11 #[.slice A n c, .string s] w fun e w' => e = .returned (.bool true) ∧ Only [] w w' := by
  by_cases hbn : n ≤ 1500
  case neg =>
    have hbn' : ¬ (n : Int) ≤ 1500 := by omega
    have hbn'' : (1500 : Int) < (n : Int) := by omega
    go_enter Tryd.func11, Tryd.ntmps11
    go_wp2_with fail
    go_ret
    exact ⟨rfl, Only.refl _ _⟩
  have hbn' : ¬ (1500 : Int) < (n : Int) := by omega
  by_cases hsn : s.size ≤ 60
  case neg =>
    have hsn' : (60 : Int) < (s.size : Int) := by omega
    go_enter Tryd.func11, Tryd.ntmps11
    go_wp2_with fail
    go_ret
    exact ⟨rfl, Only.refl _ _⟩
  have hsn' : ¬ (60 : Int) < (s.size : Int) := by omega
  have cF := refFields_any hs (by omega) hA
  have hgf : getF l s.data.toList = (findF (flds l) s.data.toList).map (·.2) := rfl
  have hnames : ∀ p ∈ flds l, p.1.length ≤ 4096 := fun p hp => by have := flds_names hp; have := hs.len; omega
  have hG1 := fun w1 (ho : Only [] w w1) => Get_as (hs.keep ho) (by omega) (blks_keep hA ho) s (by omega)
  obtain ⟨nm, hnm⟩ : ∃ nm, s.data.toList = nm := ⟨_, rfl⟩
  obtain ⟨R, hR⟩ : ∃ R, getF l s.data.toList = R := ⟨_, rfl⟩
  rw [hR] at hgf hG1
  obtain ⟨G, hG⟩ : ∃ G, flds l = G := ⟨_, rfl⟩
  rw [hG, hnm] at hgf
  rw [hG] at cF hnames
  obtain ⟨m, hm⟩ : ∃ m, G.length = m := ⟨_, rfl⟩
  have hlenG : m ≤ 16777216 := by
    rw [← hm, ← hG]
    have := flds_len l
    have := hs.len
    omega
  rw [hm] at cF
  have HGF := Lib.hid hgf
  have HNM := Lib.hid hnm
  have HM := Lib.hid hm
  have HNS := Lib.hid hnames
  have HG1 := Lib.hid hG1
  clear hR hnm hG hm hgf hnames hs hG1 hA
  go_enter Tryd.func11, Tryd.ntmps11
  go_wp2_with (go_at_call 25; (with_reducible refine cF.mono ?_); rintro e w1 ⟨A', c', rfl, hF, hO⟩)
  go_loopw [6] (fun i wr => ∃ k : Nat, k ≤ m ∧ i = .int .i64 (k : Int) ∧ Hid (findF (G.drop k) nm = findF G nm) ∧ Only [] w1 wr) (fun i _ => m - (intOf i).toNat)
  case atStart => exact ⟨0, Nat.zero_le _, rfl, rfl, Only.refl _ _⟩
  case round =>
    obtain ⟨k, hk, rfl, HK, hOr⟩ := hrel
    by_cases hlt : k < m
    · have hlt' : (k : Int) < (m : Int) := by omega
      have hkG : k < G.length := by rw [HM.out]; exact hlt
      obtain ⟨g, rfl, e1, e2⟩ := (hF.keep hOr).at_ hlt hkG
      have hnl := HNS.out _ (List.getElem_mem hkG)
      have hmiss := findF_miss (name := nm) hkG
      have hhit := findF_hit (name := nm) hkG
      obtain ⟨p, hp⟩ : ∃ p, G[k] = p := ⟨_, rfl⟩
      rw [hp] at e1 e2 hnl hmiss hhit
      obtain ⟨pn, pv⟩ := p
      simp only at e1 e2 hnl hmiss hhit
      have cS := fun w2 => refSame_any (St pn) s (by rw [St_size]; exact hnl) (by omega) w2
      rw [HNM.out, St_list] at cS
      obtain ⟨tn, htn⟩ : ∃ tn, St pn = tn := ⟨_, rfl⟩
      obtain ⟨tv, htv⟩ : ∃ tv, St pv = tv := ⟨_, rfl⟩
      rw [htn] at e1 cS
      rw [htv] at e2
      cases hb : sameT pn nm with
      | true =>
        rw [hb] at cS
        have HE : R = some pv := by rw [HGF.out, ← HK.out, hhit hb]; rfl
        have HG2 := Lib.hid fun w1 ho => HG1.out w1 ho tv true (by rw [HE]; exact htv) (by rw [HE]; rfl)
        clear hmiss hhit hp htn htv hb HG1 HE
        go_wp2_with first
          | (go_at_call 23; (with_reducible refine (known_any _).mono ?_); rintro e w4 ⟨rfl, hO4⟩)
          | (go_at_call 26; (with_reducible refine (HG2.out w2 ((hO.then hOr).then hO2)).mono ?_); rintro e w3 ⟨rfl, hO3⟩; have c3 : w3.cell? ⟨g, k * 2 + 1, none⟩ = some (.string tv) := (hO2.then hO3).cellSome (p := ⟨g, k * 2 + 1, none⟩) e2 (fun hm => nomatch hm))
          | (go_at_call 29; (with_reducible refine (cS _).mono ?_); rintro e w2 ⟨rfl, hO2⟩)
        go_ret
        exact ⟨rfl, (((hO.then hOr).then hO2).then hO3).then hO4⟩
      | false =>
        rw [hb] at cS
        have HE : Hid (findF (G.drop (k + 1)) nm = findF G nm) := by
          show _ = _
          rw [← HK.out, hmiss hb]
        clear hmiss hhit hp htn htv hb
        go_wp2_with (go_at_call 29; (with_reducible refine (cS _).mono ?_); rintro e w2 ⟨rfl, hO2⟩)
        go_roundw
        case rel => exact ⟨k + 1, by omega, by go_num, HE, hOr.then hO2⟩
        case measure => simp [intOf]; omega
    · obtain rfl : k = m := by omega
      have HE : R = none := by
        rw [HGF.out, ← HK.out, List.drop_of_length_le (by rw [HM.out]; exact Nat.le_refl _)]
        rfl
      have HG2 := Lib.hid fun w1 ho => HG1.out w1 ho ⟨#[]⟩ false (by rw [HE]; rfl) (by rw [HE]; rfl)
      clear HG1 HE
      go_wp2_with first
        | (go_at_call 23; (with_reducible refine (known_any _).mono ?_); rintro e w4 ⟨rfl, hO4⟩)
        | (go_at_call 26; (with_reducible refine (HG2.out wr (hO.then hOr)).mono ?_); rintro e w3 ⟨rfl, hO3⟩)
      go_ret
      exact ⟨rfl, ((hO.then hOr).then hO3).then hO4⟩
end
end Go.Proofs.YtmameghebikjbaaDoor
