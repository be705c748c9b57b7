/-
  The document's Forget, Touch, Due.
-/
import Derived.Test.YtmjkdfneohpbjaaQRefT
import Derived.Test.YtmjkdfneohpbjaaQDue
import Derived.Test.YtmjkdfneohpbjaaRowsOf
namespace Go.Proofs.Ytmjkdfneohpbjaa
open Go.RowKit

section
variable {w w' : World} {g n c m d : Nat} {A B : Option Addr} {l : List Hd} {ds : List Du} {rs F : List Nat}
set_option maxRecDepth 100000 in
set_option maxHeartbeats 4000000 in
theorem refForget_any (h : Rk w g A n c B m d l ds) (cn : Int) (hl : ds.length ≤ 1000) :
    Calls Try.prog 16 #[.pointer (some ⟨g, 0, none⟩), .int .i64 cn] w (Rfd w g (g :: (blks A ++ blks B)) (.tuple #[]) l (delI ds cn)) := by
  have hlen : ds.length = m := by have := h.d.1; simpa using this
  have hn : m ≤ 1000 := by omega
  have HN := Lib.hid hlen
  have HR := Lib.hid h
  obtain ⟨i0, hi, hz0, hz1, hz2⟩ := info_parts infoDue
  have hgl := h.bk.lt
  clear h hl hlen
  go_enter Try.func16, Try.ntmps16
  go_wp2
  go_loopw [4, 5] (fun s i wr => ∃ (k q : Nat) (X : Option Addr) (cx : Nat), k ≤ m ∧ i = .int .i64 (k : Int) ∧ s = .slice X q cx ∧ q ≤ k ∧ Hid (Po wr 51 X q cx (dvs (delI (ds.take k) cn))) ∧ Hid (Only [] w wr) ∧ Hid (∀ x ∈ blks X, w.heap.size ≤ x)) (fun _ i _ => m - (intOf i).toNat)
  case atStart => exact ⟨0, 0, none, 0, Nat.zero_le _, rfl, rfl, Nat.le_refl _, Po.nil _ _, Only.refl _ _, fun _ hx => nomatch hx⟩
  case round =>
    obtain ⟨k, q, X, cx, hk, rfl, rfl, hqk, HX, HO, HB⟩ := hrel
    have hRw := HR.out.keep HO.out
    obtain ⟨c0, c1⟩ := hRw.cells
    have f0 := hRw.bk.free 1
    by_cases hlt : k < m
    · have h1 : (k : Int) < (m : Int) := by omega
      have hkl : k < ds.length := by rw [HN.out]; exact hlt
      have hkv : k < (dvs ds).length := by simpa using hkl
      obtain ⟨ad, rfl, d0, d1⟩ := hRw.d.reads.at_ hkv
      have ev : (dvs ds)[k] = (.int .i64 (ds[k]).1, .int .i64 (ds[k]).2) := by simp [dvs]
      rw [ev] at d0 d1
      dsimp only at d0 d1
      have HS := Lib.hid (del_snoc hkl cn)
      have he : (ds[k]) = ((ds[k]).1, (ds[k]).2) := rfl
      rw [he] at HS
      generalize (ds[k]).1 = s at d0 HS
      generalize (ds[k]).2 = v at d1 HS
      clear hRw ev he hkv
      by_cases hs : s = cn
      · subst hs
        have HS2 : Hid (delI (ds.take (k + 1)) s = delI (ds.take k) s) := by have := HS.out; show _ = _; simpa using this
        have hvv : (s != s) = false := by simp
        go_wp2
        go_roundw
        case rel => exact ⟨k + 1, q, X, cx, by omega, by go_num, rfl, by omega, by rw [HS2.out]; exact HX, HO, HB⟩
        case measure => simp [intOf]; omega
      · have HS2 : Hid (delI (ds.take (k + 1)) cn = delI (ds.take k) cn ++ [(s, v)]) := by have := HS.out; show _ = _; simpa [hs] using this
        have hvv : (s != cn) = true := by simpa using hs
        have hX1 := HX.out
        go_wp2_with (first
          | (at_builtin; refine wpList_append_po rfl (.tmp 25) (.tmp 33) 28 rfl 51 i0 (.agg #[.int .i64 0, .int .i64 0]) 16 Try.underlying28 hi hz0 hz1 hz2 rfl X q cx _ rfl (hX1.keep ((Only.refl [] wr).alloc _)) (some ⟨wr.heap.size, 0, none⟩) 1 1 [(.int .i64 s, .int .i64 v)] rfl (Pw.of_bk (Bk.new wr 51 _)) (dvs_one [(s, v)]) (by unfold maxLen; omega) (by omega) (q + 1) rfl ?_; intro A2 c2 w2 HV2 HO2 HB2)
          | go_in)
        go_roundw
        case rel =>
          refine ⟨k + 1, q + 1, A2, c2, by omega, by go_num, rfl, by omega, ?_, ((HO.out.alloc _).trans HO2 (fun x hx => .inr (HB.out x hx))), ?_⟩
          · rw [HS2.out, dvs_append]; exact HV2
          · intro x hx
            rcases HB2 x hx with h | h
            · exact HB.out x h
            · rw [World.size_alloc] at h
              have := HO.out.size
              omega
        case measure => simp [intOf]; omega
    · have h1 : ¬ (k : Int) < (m : Int) := by omega
      have HE : Hid (delI (ds.take k) cn = delI ds cn) := by show _ = _; rw [List.take_of_length_le (by have := HN.out; omega)]
      clear hRw
      go_wp2
      go_end0
      have hRw := HR.out.keep HO.out
      have hX1 := HX.out
      rw [HE.out] at hX1
      exact hRw.doneD HO.out (Only.refl [] wr) (fun _ hx => nomatch hx) hX1 (fun k hk => .inr (HB.out k hk)) (.tuple #[])
end
end Go.Proofs.Ytmjkdfneohpbjaa
