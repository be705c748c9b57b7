/-
  Acts (structs of six cells with two slices), and the law's long.
-/
import Derived.Test.YthaodlegpjedoaaVMem
import Derived.Test.YthaodlegpjedoaaInts
import Derived.Deep.QuietTactic
import Derived.BigQuiet
namespace Go.Proofs.Ythaodlegpjedoaa
open Go.RowKit Go.Instr

structure VAc where
  kind : Int
  flags : Int
  date : Int
  mode : Int
  uids : List Int
  body : List UInt8
/-- An act's cells, as the walk writes their addresses. -/
structure AcAt (w : World) (p : Addr) (a : VAc) (Au : Option Addr) (cu : Nat) (Ab : Option Addr) (cb : Nat) : Prop where
  c0 : w.cell? p = some (.int .i64 a.kind)
  c1 : w.cell? ⟨p.block, p.off + 1, none⟩ = some (.int .i64 a.flags)
  c2 : w.cell? ⟨p.block, p.off + 2, none⟩ = some (.int .i64 a.date)
  c3 : w.cell? ⟨p.block, p.off + 3, none⟩ = some (.int .i64 a.mode)
  c4 : w.cell? ⟨p.block, p.off + 4, none⟩ = some (.slice Au a.uids.length cu)
  c5 : w.cell? ⟨p.block, p.off + 5, none⟩ = some (.slice Ab a.body.length cb)
  su : Sl w Au a.uids.length (ivs a.uids)
  sb : Sl w Ab a.body.length (bvs a.body)
def VActs (w : World) (A : Option Addr) (n : Nat) (l : List VAc) : Prop := l.length = n ∧ (0 < n → ∃ ad, A = some ad ∧ ∀ i a, l[i]? = some a → ∃ Au cu Ab cb, AcAt w (ad.add (i * 6)) a Au cu Ab cb)
section
variable {w w' : World} {A : Option Addr} {n : Nat} {l : List VAc}
theorem AcAt.keep {p : Addr} {a : VAc} {Au : Option Addr} {cu : Nat} {Ab : Option Addr} {cb : Nat} (h : AcAt w p a Au cu Ab cb) (o : Only [] w w') : AcAt w' p a Au cu Ab cb :=
  ⟨o.cellSome h.c0 (by simp), o.cellSome h.c1 (by simp), o.cellSome h.c2 (by simp), o.cellSome h.c3 (by simp), o.cellSome h.c4 (by simp), o.cellSome h.c5 (by simp), h.su.keep o, h.sb.keep o⟩
theorem VActs.keep (h : VActs w A n l) (o : Only [] w w') : VActs w' A n l :=
  ⟨h.1, fun hn => by
    obtain ⟨ad, e, hx⟩ := h.2 hn
    exact ⟨ad, e, fun i a ha => by obtain ⟨Au, cu, Ab, cb, hc⟩ := hx i a ha; exact ⟨Au, cu, Ab, cb, hc.keep o⟩⟩⟩
theorem VActs.at_ (h : VActs w A n l) {k : Nat} (hk : k < n) (hk' : k < l.length) : ∃ ad Au cu Ab cb, A = some ad ∧ AcAt w (ad.add (k * 6)) l[k] Au cu Ab cb := by
  obtain ⟨ad, e, hx⟩ := h.2 (by omega)
  obtain ⟨Au, cu, Ab, cb, hc⟩ := hx k l[k] (List.getElem?_eq_getElem hk')
  exact ⟨ad, Au, cu, Ab, cb, e, hc⟩
end
/-- long's answer: if it is no, those acts that are looked at are short. -/
def LongP (l : List VAc) (w : World) (e : Ending) (w' : World) : Prop := ∃ b, e = .returned (.bool b) ∧ Only [] w w' ∧ (b = false → ∀ i a, i < 60 → l[i]? = some a → a.uids.length ≤ 9000 ∧ a.body.length ≤ 9000)
set_option maxRecDepth 100000 in
set_option maxHeartbeats 4000000 in
theorem long_any {w : World} {A : Option Addr} {n c : Nat} {l : List VAc} (h : VActs w A n l) (hn : n ≤ 140737488355328) (hs : ∀ a ∈ l, a.uids.length ≤ 140737488351232 ∧ a.body.length ≤ 140737488351232) :
    Calls Try.prog 12 #[.slice A n c] w (LongP l w) := by
  have HH := Lib.hid h
  have HL : Hid (l.length = n) := h.1
  have HS := Lib.hid hs
  clear h hs
  go_enter Try.func12, Try.ntmps12
  go_wp2
  go_loopw [3, 4] (fun nv iv wr => Only [] w wr ∧ ∃ k t : Nat, iv = .int .i64 (k : Int) ∧ k ≤ n ∧ k ≤ 60 ∧ nv = .int .i64 (t : Int) ∧ t ≤ 9000 ∧ Hid (∀ i a, i < k → l[i]? = some a → a.uids.length ≤ 9000 ∧ a.body.length ≤ 9000)) (fun _ iv _ => n - (intOf iv).toNat)
  case atStart => exact ⟨Only.refl _ _, 0, 0, rfl, Nat.zero_le _, Nat.zero_le _, rfl, Nat.zero_le _, fun i a hi => by omega⟩
  case round =>
    obtain ⟨hO, k, t, rfl, hk, hk60, rfl, ht, HP⟩ := hrel
    by_cases hlt : k < n
    · have hlt' : (k : Int) < (n : Int) := by omega
      by_cases h60 : k < 60
      · have h60' : (k : Int) < 60 := by omega
        have hkl : k < l.length := by rw [HL.out]; exact hlt
        obtain ⟨ad, Au, cu, Ab, cb, rfl, hm⟩ := (HH.out.keep hO).at_ hlt hkl
        have hb := HS.out l[k] (List.getElem_mem hkl)
        have HNX : Hid (l[k].uids.length ≤ 9000 → l[k].body.length ≤ 9000 → ∀ i a, i < k + 1 → l[i]? = some a → a.uids.length ≤ 9000 ∧ a.body.length ≤ 9000) := fun h1 h2 i a hi ha => by
          by_cases e : i = k
          · subst e
            rw [List.getElem?_eq_getElem hkl] at ha
            injection ha with ha
            subst ha
            exact ⟨h1, h2⟩
          · exact HP.out i a (by omega) ha
        have m4 := hm.c4
        have m5 := hm.c5
        clear hm
        generalize l[k].uids.length = x at m4 hb HNX
        generalize l[k].body.length = y at m5 hb HNX
        have hx := hb.1
        have hy := hb.2
        have HM : Hid (n - (intOf (.int .i64 ((k : Int) + 1))).toNat < n - (intOf (.int .i64 (k : Int))).toNat) := by
          show _ < _
          simp [intOf]
          omega
        have HW1 : wrap64 ((t : Int) + 1) = (t : Int) + 1 := IntWalk.wrap64_in _ (by omega)
        have HW2 : wrap64 ((t : Int) + 1 + (y : Int)) = (t : Int) + 1 + (y : Int) := IntWalk.wrap64_in _ (by omega)
        have HW3 : wrap64 ((t : Int) + 1 + (y : Int) + (x : Int)) = (t : Int) + 1 + (y : Int) + (x : Int) := IntWalk.wrap64_in _ (by omega)
        have HO2 := fun n => Lib.hid (hO.drewN n)
        go_wp2_with fail
        go_quiet (fail)
        by_cases hbig : 9000 < t + 1 + y + x
        · have hb1 : (9000 : Int) < (t : Int) + 1 + (y : Int) + (x : Int) := by omega
          go_wp2_with fail
          go_ret
          exact ⟨true, rfl, (HO2 _).out, fun e => by cases e⟩
        · have hb1 : ¬ (9000 : Int) < (t : Int) + 1 + (y : Int) + (x : Int) := by omega
          have HP2 := Lib.hid (HNX.out (by omega) (by omega))
          go_wp2_with fail
          exact ⟨⟨(HO2 _).out, k + 1, t + 1 + y + x, by simp, by omega, by omega, by simp, by omega, HP2.out⟩, HM.out⟩
      · have h60' : ¬ (k : Int) < 60 := by omega
        go_wp2
        go_ret
        exact ⟨false, rfl, hO, fun _ i a hi ha => HP.out i a (by omega) ha⟩
    · obtain rfl : k = n := by omega
      go_wp2
      go_ret
      exact ⟨false, rfl, hO, fun _ i a hi ha => HP.out i a (by have := (List.getElem?_eq_some_iff.1 ha).1; rw [HL.out] at this; omega) ha⟩
end Go.Proofs.Ythaodlegpjedoaa
