/-
  The document's Take, Free, Forget.
-/
import Derived.Test.YtmjkdfneohpbjaaQRef
namespace Go.Proofs.Ytmjkdfneohpbjaa
open Go.RowKit

def takeR (l : List Hd) (u : ByteArray) (c : Int) : List Hd := match holdL l u with
  | some _ => l
  | none => l ++ [(u, c)]
section
variable {w w' : World} {g n c m d : Nat} {A B : Option Addr} {l : List Hd} {ds : List Du} {rs F : List Nat}
theorem Rk.apart (h : Rk w g A n c B m d l ds) : g ∉ blks A ∧ g ∉ blks B ∧ ∀ x ∈ blks A, x ∉ blks B := by
  refine ⟨fun hm => ?_, fun hm => ?_, fun x hx hm => ?_⟩
  · obtain ⟨cur, hc⟩ := h.h.bk hm
    exact hc.ne h.bk (by decide) rfl
  · obtain ⟨cur, hc⟩ := h.d.bk hm
    exact hc.ne h.bk (by decide) rfl
  · obtain ⟨cur, hc⟩ := h.h.bk hx
    obtain ⟨cur2, hc2⟩ := h.d.bk hm
    exact hc.ne hc2 (by decide) rfl
/-- The first row is another one: what the call has left. -/
theorem Rk.doneH {w1 w2 : World} {A2 : Option Addr} {n2 c2 : Nat} {l2 : List Hd} (h : Rk w1 g A n c B m d l ds) (o1 : Only [] w w1) (o : Only rs w1 w2) (hr : ∀ x ∈ rs, x ∈ blks A) (h2 : Po w2 48 A2 n2 c2 (hvs l2)) (hb : ∀ k ∈ blks A2, k ∈ blks A ∨ w.heap.size ≤ k) (v : Value) :
    Rfd w g (g :: (blks A ++ blks B)) v l2 ds (.returned v) (w2.setCell ⟨g, 0, none⟩ (.slice A2 n2 c2)) := by
  have hap := h.apart
  have bk2 := h.bk.only o (fun hm => hap.1 (hr g hm))
  have d2 := h.d.only o (fun x hx hm => hap.2.2 x (hr x hm) hx)
  have o3 : Only [g] w2 (w2.setCell ⟨g, 0, none⟩ (.slice A2 n2 c2)) := (Only.refl [g] w2).setCell (.inl (by simp)) _
  refine ⟨rfl, _, ⟨A2, n2, c2, B, m, d, ⟨bk2.set 0 _, h2.only o3 (fun x hx hm => ?_), d2.only o3 (fun x hx hm => ?_)⟩, rfl⟩, ?_, fun k hk => ?_⟩
  · simp at hm
    subst hm
    obtain ⟨cur, hc⟩ := h2.bk hx
    exact hc.ne bk2 (by decide) rfl
  · simp at hm
    subst hm
    exact hap.2.1 hx
  · refine ((o1.mono (ss := g :: (blks A ++ blks B)) (fun _ hx => nomatch hx)).trans (o.mono (ss := g :: (blks A ++ blks B)) (fun x hx => .inl (by simp [hr x hx]))) (fun x hx => .inl hx)).trans o3 (fun x hx => .inl ?_)
    simp at hx
    simp [hx]
  · rcases List.mem_cons.1 hk with rfl | hk
    · exact .inl (by simp)
    · rcases List.mem_append.1 hk with hk | hk
      · rcases hb k hk with h | h
        · exact .inl (by simp [h])
        · exact .inr h
      · exact .inl (by simp [hk])
theorem Rk.doneD {w1 w2 : World} {B2 : Option Addr} {m2 d2 : Nat} {ds2 : List Du} (h : Rk w1 g A n c B m d l ds) (o1 : Only [] w w1) (o : Only rs w1 w2) (hr : ∀ x ∈ rs, x ∈ blks B) (h2 : Po w2 51 B2 m2 d2 (dvs ds2)) (hb : ∀ k ∈ blks B2, k ∈ blks B ∨ w.heap.size ≤ k) (v : Value) :
    Rfd w g (g :: (blks A ++ blks B)) v l ds2 (.returned v) (w2.setCell ⟨g, 1, none⟩ (.slice B2 m2 d2)) := by
  have hap := h.apart
  have bk2 := h.bk.only o (fun hm => hap.2.1 (hr g hm))
  have h3 := h.h.only o (fun x hx hm => hap.2.2 x hx (hr x hm))
  have o3 : Only [g] w2 (w2.setCell ⟨g, 1, none⟩ (.slice B2 m2 d2)) := (Only.refl [g] w2).setCell (.inl (by simp)) _
  refine ⟨rfl, _, ⟨A, n, c, B2, m2, d2, ⟨bk2.set 1 _, h3.only o3 (fun x hx hm => ?_), h2.only o3 (fun x hx hm => ?_)⟩, rfl⟩, ?_, fun k hk => ?_⟩
  · simp at hm
    subst hm
    exact hap.1 hx
  · simp at hm
    subst hm
    obtain ⟨cur, hc⟩ := h2.bk hx
    exact hc.ne bk2 (by decide) rfl
  · refine ((o1.mono (ss := g :: (blks A ++ blks B)) (fun _ hx => nomatch hx)).trans (o.mono (ss := g :: (blks A ++ blks B)) (fun x hx => .inl (by simp [hr x hx]))) (fun x hx => .inl hx)).trans o3 (fun x hx => .inl ?_)
    simp at hx
    simp [hx]
  · rcases List.mem_cons.1 hk with rfl | hk
    · exact .inl (by simp)
    · rcases List.mem_append.1 hk with hk | hk
      · exact .inl (by simp [hk])
      · rcases hb k hk with h | h
        · exact .inl (by simp [h])
        · exact .inr h
set_option maxRecDepth 100000 in
set_option maxHeartbeats 4000000 in
theorem refTake_any (h : Rk w g A n c B m d l ds) (u : ByteArray) (cn : Int) (hl : l.length ≤ 1000) :
    Calls Try.prog 10 #[.pointer (some ⟨g, 0, none⟩), .string u, .int .i64 cn] w (Rfd w g (g :: (blks A ++ blks B)) (.bool (takeB l u cn)) (takeR l u cn) ds) := by
  obtain ⟨c0, c1⟩ := h.cells
  have HC := Lib.hid (refHolder_any h u (by omega))
  have hn : n ≤ 1000 := by have := h.h.1; simp at this; omega
  have f0 := h.bk.free 0
  have HR := Lib.hid h
  cases hh : holdL l u with
  | some e =>
    have HB : Hid (takeB l u cn = decide (e = cn)) := by show _ = _; unfold takeB; rw [hh]
    have HL : Hid (takeR l u cn = l) := by show _ = _; unfold takeR; rw [hh]
    rw [hh] at HC
    simp only [Option.getD_some, Option.isSome_some] at HC
    have hb2 : ((e == cn) : Bool) = decide (e = cn) := by by_cases h : e = cn <;> simp [h]
    obtain ⟨q, hq⟩ : ∃ q, q = decide (e = cn) := ⟨_, rfl⟩
    rw [← hq] at hb2
    have HQ := Lib.hid hq
    clear h hh hq
    go_enter Try.func10, Try.ntmps10
    go_wp2_with (go_at_call 20; refine HC.out.mono ?_; rintro e w1 ⟨rfl, rfl⟩)
    go_ret
    rw [HL.out, HB.out]
    exact ⟨by rw [← HQ.out, ← hb2]; rfl, _, ⟨_, _, _, _, _, _, HR.out, rfl⟩, Only.refl _ _, fun _ hk => .inl hk⟩
  | none =>
    have HB : Hid (takeB l u cn = true) := by show _ = _; unfold takeB; rw [hh]
    have HL : Hid (takeR l u cn = l ++ [(u, cn)]) := by show _ = _; unfold takeR; rw [hh]
    rw [hh] at HC
    simp only [Option.getD_none, Option.isSome_none] at HC
    obtain ⟨i0, hi, hz0, hz1, hz2⟩ := info_parts infoHeld
    rw [HL.out, HB.out]
    have h1 := h.h
    have hlt := h.lt
    clear h hh
    go_enter Try.func10, Try.ntmps10
    go_wp2_with (first
      | (go_at_call 20; refine HC.out.mono ?_; clear HC; rintro e w1 ⟨rfl, rfl⟩)
      | (at_builtin; refine wpList_append_po rfl (.tmp 23) (.tmp 27) 27 rfl 48 i0 (.agg #[.string ⟨#[]⟩, .int .i64 0]) 24 Try.underlying27 hi hz0 hz1 hz2 rfl A n c (hvs l) rfl (h1.keep ((Only.refl [] w).alloc _)) (some ⟨w.heap.size, 0, none⟩) 1 1 [(.string u, .int .i64 cn)] rfl (Pw.of_bk (Bk.new w 48 _)) (hvs_one [(u, cn)]) (by unfold maxLen; omega) (by omega) (n + 1) rfl ?_; intro A2 c2 w2 HV2 HO2 HB2; have HR2 := (HR.out.keep ((Only.refl [] w).alloc (.cells #[.string u, .int .i64 cn] 48))); have hg2 : w2.cell? ⟨g, 0, none⟩ = some (.slice A n c) := (HO2.cellSome HR2.cells.1 HR2.apart.1); have f2 : w2.frozen? ⟨g, 0, none⟩ = false := ((HR2.bk.only HO2 HR2.apart.1).free 0)))
    go_ret
    exact HR2.doneH ((Only.refl [] w).alloc _) HO2 (fun x hx => hx) (by rw [hvs_append]; exact HV2) (fun k hk => by
      rcases HB2 k hk with h | h
      · exact .inl h
      · rw [World.size_alloc] at h
        exact .inr (by omega)) (.bool true)

/-- The first k of a list, sieved, and one more. -/
theorem free_snoc {l : List Hd} {k : Nat} (hk : k < l.length) (cn : Int) : freeL (l.take (k + 1)) cn = if (l[k]).2 = cn then freeL (l.take k) cn else freeL (l.take k) cn ++ [l[k]] := by
  unfold freeL
  rw [List.take_succ_eq_append_getElem hk, List.filter_append]
  by_cases h : (l[k]).2 = cn <;> simp [h]
theorem del_snoc {l : List Du} {k : Nat} (hk : k < l.length) (cn : Int) : delI (l.take (k + 1)) cn = if (l[k]).1 = cn then delI (l.take k) cn else delI (l.take k) cn ++ [l[k]] := by
  unfold delI
  rw [List.take_succ_eq_append_getElem hk, List.filter_append]
  by_cases h : (l[k]).1 = cn <;> simp [h]
theorem due_snoc {l : List Du} {k : Nat} (hk : k < l.length) (now : Int) : dueL (l.take (k + 1)) now = if (l[k]).2 ≤ now then dueL (l.take k) now ++ [(l[k]).1] else dueL (l.take k) now := by
  unfold dueL
  rw [List.take_succ_eq_append_getElem hk, List.filter_append]
  by_cases h : (l[k]).2 ≤ now <;> simp [h]
set_option maxRecDepth 100000 in
set_option maxHeartbeats 4000000 in
theorem refFree_any (h : Rk w g A n c B m d l ds) (cn : Int) (hl : l.length ≤ 1000) :
    Calls Try.prog 12 #[.pointer (some ⟨g, 0, none⟩), .int .i64 cn] w (Rfd w g (g :: (blks A ++ blks B)) (.tuple #[]) (freeL l cn) ds) := by
  have hlen : l.length = n := by have := h.h.1; simpa using this
  have hn : n ≤ 1000 := by omega
  have HN := Lib.hid hlen
  have HR := Lib.hid h
  obtain ⟨i0, hi, hz0, hz1, hz2⟩ := info_parts infoHeld
  have hgl := h.bk.lt
  clear h hl hlen
  go_enter Try.func12, Try.ntmps12
  go_wp2
  go_loopw [4, 5] (fun s i wr => ∃ (k q : Nat) (X : Option Addr) (cx : Nat), k ≤ n ∧ i = .int .i64 (k : Int) ∧ s = .slice X q cx ∧ q ≤ k ∧ Hid (Po wr 48 X q cx (hvs (freeL (l.take k) cn))) ∧ Hid (Only [] w wr) ∧ Hid (∀ x ∈ blks X, w.heap.size ≤ x)) (fun _ i _ => n - (intOf i).toNat)
  case atStart => exact ⟨0, 0, none, 0, Nat.zero_le _, rfl, rfl, Nat.le_refl _, Po.nil _ _, Only.refl _ _, fun _ hx => nomatch hx⟩
  case round =>
    obtain ⟨k, q, X, cx, hk, rfl, rfl, hqk, HX, HO, HB⟩ := hrel
    have hRw := HR.out.keep HO.out
    obtain ⟨c0, c1⟩ := hRw.cells
    have f0 := hRw.bk.free 0
    by_cases hlt : k < n
    · have h1 : (k : Int) < (n : Int) := by omega
      have hkl : k < l.length := by rw [HN.out]; exact hlt
      have hkv : k < (hvs l).length := by simpa using hkl
      obtain ⟨ad, rfl, d0, d1⟩ := hRw.h.reads.at_ hkv
      have ev : (hvs l)[k] = (.string (l[k]).1, .int .i64 (l[k]).2) := by simp [hvs]
      rw [ev] at d0 d1
      dsimp only at d0 d1
      have HS := Lib.hid (free_snoc hkl cn)
      have he : (l[k]) = ((l[k]).1, (l[k]).2) := rfl
      rw [he] at HS
      generalize (l[k]).1 = s at d0 HS
      generalize (l[k]).2 = v at d1 HS
      clear hRw ev he hkv
      by_cases hs : v = cn
      · subst hs
        have HS2 : Hid (freeL (l.take (k + 1)) v = freeL (l.take k) v) := by have := HS.out; show _ = _; simpa using this
        have hvv : (v != v) = false := by simp
        go_wp2
        go_roundw
        case rel => exact ⟨k + 1, q, X, cx, by omega, by go_num, rfl, by omega, by rw [HS2.out]; exact HX, HO, HB⟩
        case measure => simp [intOf]; omega
      · have HS2 : Hid (freeL (l.take (k + 1)) cn = freeL (l.take k) cn ++ [(s, v)]) := by have := HS.out; show _ = _; simpa [hs] using this
        have hvv : (v != cn) = true := by simpa using hs
        have hX1 := HX.out
        go_wp2_with (first
          | (at_builtin; refine wpList_append_po rfl (.tmp 25) (.tmp 33) 27 rfl 48 i0 (.agg #[.string ⟨#[]⟩, .int .i64 0]) 24 Try.underlying27 hi hz0 hz1 hz2 rfl X q cx _ rfl (hX1.keep ((Only.refl [] wr).alloc _)) (some ⟨wr.heap.size, 0, none⟩) 1 1 [(.string s, .int .i64 v)] rfl (Pw.of_bk (Bk.new wr 48 _)) (hvs_one [(s, v)]) (by unfold maxLen; omega) (by omega) (q + 1) rfl ?_; intro A2 c2 w2 HV2 HO2 HB2)
          | go_in)
        go_roundw
        case rel =>
          refine ⟨k + 1, q + 1, A2, c2, by omega, by go_num, rfl, by omega, ?_, ((HO.out.alloc _).trans HO2 (fun x hx => .inr (HB.out x hx))), ?_⟩
          · rw [HS2.out, hvs_append]; exact HV2
          · intro x hx
            rcases HB2 x hx with h | h
            · exact HB.out x h
            · rw [World.size_alloc] at h
              have := HO.out.size
              omega
        case measure => simp [intOf]; omega
    · have h1 : ¬ (k : Int) < (n : Int) := by omega
      have HE : Hid (freeL (l.take k) cn = freeL l cn) := by show _ = _; rw [List.take_of_length_le (by have := HN.out; omega)]
      clear hRw
      go_wp2
      go_end0
      have hRw := HR.out.keep HO.out
      have hX1 := HX.out
      rw [HE.out] at hX1
      exact hRw.doneH HO.out (Only.refl [] wr) (fun _ hx => nomatch hx) hX1 (fun k hk => .inr (HB.out k hk)) (.tuple #[])
end
end Go.Proofs.Ytmjkdfneohpbjaa
