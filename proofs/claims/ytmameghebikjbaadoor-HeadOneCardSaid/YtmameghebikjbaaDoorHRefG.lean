/-
  The document's Get.
-/
import Derived.Test.YtmameghebikjbaaDoorHRefF
import Derived.Test.YtmameghebikjbaaDoorHLow
namespace Go.Proofs.YtmameghebikjbaaDoor
open Go.RowKit Go.Instr
section
variable {w : World} {A : Option Addr} {n c : Nat} {l : List UInt8}
set_option maxRecDepth 100000 in
set_option maxHeartbeats 1000000 in
theorem refGet_any (hs : Bt w A n c l) (hbig : n ≤ 4096) (hA : ∀ x ∈ blks A, x < w.heap.size) (s : ByteArray) (hss : s.size ≤ 4096) : Calls Tryd.prog 27 #[.slice A n c, .string s] w (Got w (getF l s.data.toList)) := by
  have hnl := hs.len
  have cF := refFields_any hs hbig hA
  have hgf : getF l s.data.toList = (findF (flds l) s.data.toList).map (·.2) := rfl
  have hnames : ∀ p ∈ flds l, p.1.length ≤ 4096 := fun p hp => by have := flds_names hp; omega
  obtain ⟨R, hR⟩ : ∃ R, getF l s.data.toList = R := ⟨_, rfl⟩
  rw [hR] at hgf ⊢
  obtain ⟨nm, hnm⟩ : ∃ nm, s.data.toList = nm := ⟨_, rfl⟩
  obtain ⟨G, hG⟩ : ∃ G, flds l = G := ⟨_, rfl⟩
  have hlenG : G.length ≤ 16777216 := by
    rw [← hG]
    have := flds_len l
    omega
  rw [hG] at cF hgf hnames
  rw [hnm] at hgf
  obtain ⟨m, hm⟩ : ∃ m, G.length = m := ⟨_, rfl⟩
  rw [hm] at cF hlenG
  have HGF := Lib.hid hgf
  have HNM := Lib.hid hnm
  have HM := Lib.hid hm
  have HNS := Lib.hid hnames
  clear hR hnm hG hm hgf hnames hs hnl
  go_enter Tryd.func27, Tryd.ntmps27
  go_wp2_with (go_at_call 25; (with_reducible refine cF.mono ?_); rintro e w1 ⟨A', c', rfl, hF, hO⟩)
  go_loopw [7] (fun i wr => ∃ k : Nat, k ≤ m ∧ i = .int .i64 (k : Int) ∧ Hid (findF (G.drop k) nm = findF G nm) ∧ Only [] w1 wr) (fun i _ => m - (intOf i).toNat)
  case atStart => exact ⟨0, Nat.zero_le _, rfl, rfl, Only.refl _ _⟩
  case round =>
    obtain ⟨k, hk, rfl, HK, hOr⟩ := hrel
    by_cases hlt : k < m
    · have hlt' : (k : Int) < (m : Int) := by omega
      have hkG : k < G.length := by rw [HM.out]; exact hlt
      obtain ⟨g, rfl, e1, e2⟩ := (hF.keep hOr).at_ hlt hkG
      have hnl := HNS.out _ (List.getElem_mem hkG)
      have hmiss := findF_miss (name := nm) hkG
      have hhit := findF_hit (name := nm) hkG
      obtain ⟨p, hp⟩ : ∃ p, G[k] = p := ⟨_, rfl⟩
      rw [hp] at e1 e2 hnl hmiss hhit
      obtain ⟨pn, pv⟩ := p
      simp only at e1 e2 hnl hmiss hhit
      have cS := fun w2 => refSame_any (St pn) s (by rw [St_size]; exact hnl) hss w2
      rw [HNM.out, St_list] at cS
      obtain ⟨tn, htn⟩ : ∃ tn, St pn = tn := ⟨_, rfl⟩
      obtain ⟨tv, htv⟩ : ∃ tv, St pv = tv := ⟨_, rfl⟩
      rw [htn] at e1 cS
      rw [htv] at e2
      have HTV := Lib.hid htv
      cases hb : sameT pn nm with
      | true =>
        rw [hb] at cS
        have HE : Hid (R = some pv) := by
          show _ = _
          rw [HGF.out, ← HK.out, hhit hb]
          rfl
        clear hmiss hhit hp htn htv hb
        go_wp2_with (go_at_call 29; (with_reducible refine (cS _).mono ?_); rintro e w2 ⟨rfl, hO2⟩; have c2 : w2.cell? ⟨g, k * 2 + 1, none⟩ = some (.string tv) := hO2.cellSome (p := ⟨g, k * 2 + 1, none⟩) e2 (fun hm => nomatch hm))
        go_ret2
        exact ⟨tv, by rw [HE.out]; rfl, by rw [HE.out]; exact HTV.out.symm, (hO.then hOr).then hO2⟩
      | false =>
        rw [hb] at cS
        have HE : Hid (findF (G.drop (k + 1)) nm = findF G nm) := by
          show _ = _
          rw [← HK.out, hmiss hb]
        clear hmiss hhit hp htn htv hb
        go_wp2_with (go_at_call 29; (with_reducible refine (cS _).mono ?_); rintro e w2 ⟨rfl, hO2⟩)
        go_roundw
        case rel => exact ⟨k + 1, by omega, by go_num, HE, hOr.then hO2⟩
        case measure => simp [intOf]; omega
    · obtain rfl : k = m := by omega
      have HE : Hid (R = none) := by
        show _ = _
        rw [HGF.out, ← HK.out, List.drop_of_length_le (by rw [HM.out]; exact Nat.le_refl _)]
        rfl
      go_wp2
      go_ret2
      exact ⟨_, by rw [HE.out]; rfl, by rw [HE.out]; rfl, hO.then hOr⟩
end
end Go.Proofs.YtmameghebikjbaaDoor
