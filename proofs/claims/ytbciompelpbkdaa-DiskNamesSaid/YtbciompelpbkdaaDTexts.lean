/-
  A law's texts (two lists of the same texts), and states of two files x, y.
-/
import Derived.Test.YtbciompelpbkdaaDLaw
namespace Go.Proofs.Ytbciompelpbkdaa
open Go.RowKit Go.Maps

set_option maxRecDepth 100000 in
theorem texts_q (A A' : Option Addr) (n c n' c' : Nat) (ss : List ByteArray) (w : World) (ha : Sl w A n (ss.map Value.string)) (hb : Sl w A' n' (ss.map Value.string)) (hn : n ≤ 4611686018427387904) :
    Calls Try.prog 29 #[.slice A n c, .slice A' n' c'] w (Quiet w (.bool true)) := by
  have hl : ss.length = n := by simpa using ha.len
  have hl' : ss.length = n' := by simpa using hb.len
  obtain rfl : n = n' := by omega
  have HL := Lib.hid hl
  clear hl hl'
  go_enter Try.func29, Try.ntmps29
  go_wp2
  go_loopw [5] (fun i wr => ∃ k : Nat, k ≤ n ∧ i = .int .i64 k ∧ ∃ m, wr = w.drewN m) (fun i _ => n - (intOf i).toNat)
  case atStart => exact ⟨0, Nat.zero_le _, rfl, 0, rfl⟩
  case round =>
    obtain ⟨k, hk, rfl, m0, rfl⟩ := hrel
    by_cases hlt : k < n
    · obtain ⟨ad, u, rfl, hu, hcell⟩ := ha.at_ hlt
      obtain ⟨ad', u', rfl, hu', hcell'⟩ := hb.at_ hlt
      have hkl : k < ss.length := by rw [HL.out]; exact hlt
      rw [List.getElem?_map, List.getElem?_eq_getElem hkl] at hu hu'
      obtain ⟨s, hs⟩ : ∃ s, s = ss[k]'hkl := ⟨_, rfl⟩
      rw [← hs] at hu hu'
      obtain rfl : Value.string s = u := by injection hu
      obtain rfl : Value.string s = u' := by injection hu'
      clear hu hu' hs hkl
      go_wp2
      go_quiet (fail)
      go_wp2
      go_roundw
      case rel => exact ⟨k + 1, by omega, by go_num, _, rfl⟩
      case measure => simp [intOf]; omega
    · go_wp2
      go_ret
      exact ⟨rfl, _, rfl⟩

variable {room la lb : Nat} {q p : List UInt8}
theorem xy : bef nameX nameY = true := by kernel_rfl
theorem app_y (hp : q.length + p.length ≤ room) : errA ⟨room, [⟨nameX, q, la⟩], none⟩ nameY p = 0 ∧ appendS ⟨room, [⟨nameX, q, la⟩], none⟩ nameY p = ⟨room, [⟨nameX, q, la⟩, ⟨nameY, p, 0⟩], none⟩ := by
  have h0 : errB ⟨room, [⟨nameX, q, la⟩], none⟩ [nameY] = 0 := errB_ok okY (by simp) _
  have h1 : errA ⟨room, [⟨nameX, q, la⟩], none⟩ nameY p = 0 := errA_ok h0 (by simpa [used] using hp) (.inr (by simp))
  refine ⟨h1, ?_⟩
  rw [appendS_ok h1]
  have hb : bef nameY nameX = false := by kernel_rfl
  simp [doA, tick, get, neXY, ins, hb]
theorem sync_x : errF ⟨room, [⟨nameX, q, la⟩, ⟨nameY, p, lb⟩], none⟩ nameX = 0 ∧ syncS ⟨room, [⟨nameX, q, la⟩, ⟨nameY, p, lb⟩], none⟩ nameX = ⟨room, [⟨nameX, q, q.length⟩, ⟨nameY, p, lb⟩], none⟩ := by
  have h0 : errB ⟨room, [⟨nameX, q, la⟩, ⟨nameY, p, lb⟩], none⟩ [nameX] = 0 := errB_ok okX (by simp) _
  have h1 : errF ⟨room, [⟨nameX, q, la⟩, ⟨nameY, p, lb⟩], none⟩ nameX = 0 := by simp [errF, h0, get]
  refine ⟨h1, ?_⟩
  simp [syncS, h1, tick, upd, synced, neXY.symm]
theorem ren_xy : errR ⟨room, [⟨nameX, q, la⟩, ⟨nameY, p, lb⟩], none⟩ nameX nameY = 0 ∧ renameS ⟨room, [⟨nameX, q, la⟩, ⟨nameY, p, lb⟩], none⟩ nameX nameY = ⟨room, [⟨nameY, q, la⟩], none⟩ := by
  have h1 : errR ⟨room, [⟨nameX, q, la⟩, ⟨nameY, p, lb⟩], none⟩ nameX nameY = 0 := by simp [errR, errB, get, okX, okY]
  refine ⟨h1, ?_⟩
  simp [renameS, h1, tick, moved, get, del, ins, neXY]
theorem ren_xz : errR ⟨room, [⟨nameY, q, la⟩], none⟩ nameX nameZ = 7 ∧ renameS ⟨room, [⟨nameY, q, la⟩], none⟩ nameX nameZ = ⟨room, [⟨nameY, q, la⟩], none⟩ := by
  have h1 : errR ⟨room, [⟨nameY, q, la⟩], none⟩ nameX nameZ = 7 := by simp [errR, errB, get, okX, okZ, neXY.symm]
  exact ⟨h1, by simp [renameS, h1]⟩
theorem crash_y : crashS ⟨room, [⟨nameY, q, la⟩], none⟩ 0 = ⟨room, [⟨nameY, q.take la, la⟩], none⟩ := by
  simp [crashS, crashF, stay]
end Go.Proofs.Ytbciompelpbkdaa
