/-
  lock: Take, Forget, Touch.
-/
import Derived.Test.YtmjkdfneohpbjaaQLeaf
import Derived.Test.YtmjkdfneohpbjaaShelf
namespace Go.Proofs.Ytmjkdfneohpbjaa
open Go.RowKit Go.Maps Go.Shelf

theorem qclone_any (s : ByteArray) (w : World) (hs : s.size ≤ 281474976710656) : Calls Try.prog 22 #[.string s] w fun e w' => e = .returned (.string s) ∧ Only [] w w' := by
  have HC := Try.stringslite_Clone s w hs
  go_enter Try.func22, Try.ntmps22
  go_wp2_with (go_at_call 26; refine HC.mono ?_; rintro e w1 ⟨rfl, hb⟩)
  go_ret
  exact ⟨rfl, Only.of_below hb⟩
section
variable {w : World} {g : Nat} {hb db : Option Nat} {l : List Hd} {ds : List Du}
/-- The map of drops is a new one, or has turned. -/
theorem Lk.turnH {w' : World} {m : Nat} {l' : List Hd} (h : Lk w g (some m) db l ds) (hl : HvAt w' m l') (o : Only [m] w w') : Lk w' g (some m) db l' ds := by
  have hn := h.nd
  unfold fpL at hn
  simp only [Option.toList_some, List.cons_append, List.nil_append, List.nodup_cons, List.mem_cons, not_or] at hn
  exact ⟨h.bk.only o (by simpa using hn.1.1), hl, h.iv.only o (fun k e => by
    have := hn.2.1
    rw [e] at this
    simp at this
    simpa using fun e => this e.symm), h.nd⟩
theorem Lk.turnD {w' : World} {m : Nat} {ds' : List Du} (h : Lk w g hb (some m) l ds) (hl : IvAt w' m ds') (o : Only [m] w w') : Lk w' g hb (some m) l ds' := by
  have hn := h.nd
  unfold fpL at hn
  simp only [Option.toList_some, List.nodup_cons, List.mem_append, List.mem_singleton, not_or, List.nodup_append] at hn
  exact ⟨h.bk.only o (by simpa using hn.1.2), KvIs.only h.hv o (fun k e => by
    have := hn.2.2.2 k (by simp [e]) m (by simp)
    simpa using this), hl, h.nd⟩
theorem Lk.newH (h : Lk w g none db l ds) : Lk ((w.setCell ⟨g, 0, none⟩ (.map (some w.heap.size))).alloc (.map #[] 0)) g (some w.heap.size) db [] ds ∧ Only [g] w ((w.setCell ⟨g, 0, none⟩ (.map (some w.heap.size))).alloc (.map #[] 0)) := by
  have hlt := h.lt
  have o : Only [g] w ((w.setCell ⟨g, 0, none⟩ (.map (some w.heap.size))).alloc (.map #[] 0)) := ((Only.refl [g] w).setCell (.inl (by simp)) _).alloc _
  have hsz : (w.setCell ⟨g, 0, none⟩ (.map (some w.heap.size))).heap.size = w.heap.size := by simp [World.setCell]
  have hn := h.nd
  refine ⟨⟨?_, ?_, h.iv.only o (fun k e => ?_), ?_⟩, o⟩
  · have := (h.bk.set 0 (.map (some w.heap.size))).alloc (.map #[] 0)
    exact this
  · have := World.ownsMap_made (w.setCell ⟨g, 0, none⟩ (.map (some w.heap.size))) Try.prog 9 (heldP isI)
    rw [hsz] at this
    exact this
  · unfold fpL at hn
    simp [e] at hn
    simpa using fun e2 => hn e2.symm
  · unfold fpL at hn ⊢
    simp only [Option.toList_none, List.nil_append, List.nodup_cons, Option.toList_some, List.cons_append, List.mem_cons, not_or] at hn ⊢
    refine ⟨⟨by have := hlt g (by simp [fpL]); omega, hn.1⟩, fun hm => ?_, hn.2⟩
    have := hlt w.heap.size (by simp only [fpL, Option.toList_none, List.nil_append, List.mem_cons]; exact .inr hm)
    omega
theorem Lk.newD (h : Lk w g hb none l ds) : Lk ((w.setCell ⟨g, 1, none⟩ (.map (some w.heap.size))).alloc (.map #[] 0)) g hb (some w.heap.size) l [] ∧ Only [g] w ((w.setCell ⟨g, 1, none⟩ (.map (some w.heap.size))).alloc (.map #[] 0)) := by
  have hlt := h.lt
  have o : Only [g] w ((w.setCell ⟨g, 1, none⟩ (.map (some w.heap.size))).alloc (.map #[] 0)) := ((Only.refl [g] w).setCell (.inl (by simp)) _).alloc _
  have hsz : (w.setCell ⟨g, 1, none⟩ (.map (some w.heap.size))).heap.size = w.heap.size := by simp [World.setCell]
  have hn := h.nd
  refine ⟨⟨?_, KvIs.only h.hv o (fun k e => ?_), ?_, ?_⟩, o⟩
  · have := (h.bk.set 1 (.map (some w.heap.size))).alloc (.map #[] 0)
    exact this
  · unfold fpL at hn
    simp [e] at hn
    simpa using fun e2 => hn e2.symm
  · have := World.ownsMap_made (w.setCell ⟨g, 1, none⟩ (.map (some w.heap.size))) Try.prog 3 (heldP isI)
    rw [hsz] at this
    exact this
  · unfold fpL at hn ⊢
    simp only [Option.toList_none, List.append_nil, List.nodup_cons, Option.toList_some, List.mem_append, List.mem_singleton, not_or, List.nodup_append] at hn ⊢
    have hgl := hlt g (by simp [fpL])
    refine ⟨⟨hn.1, by omega⟩, hn.2, by simp, fun a ha b hb => ?_⟩
    have := hlt a (by simp only [fpL, Option.toList_none, List.append_nil, List.mem_cons]; exact .inr ha)
    omega
theorem Lk.ownH {m : Nat} (h : Lk w g (some m) db l ds) : w.ownsMap Try.prog 9 (heldP isI) m (kvI l).length (DK (kvI l)) := h.hv
theorem Lk.ownD {m : Nat} (h : Lk w g hb (some m) l ds) : w.ownsMap Try.prog 3 (heldP isI) m ds.length (DI ds) := h.iv
theorem Lk.ne0 {m : Nat} (h : Lk w g (some m) db l ds) : g ≠ m := by
  have := h.nd
  unfold fpL at this
  simp at this
  exact this.1.1
theorem Lk.ne1 {m : Nat} (h : Lk w g hb (some m) l ds) : g ≠ m := by
  have := h.nd
  unfold fpL at this
  simp at this
  exact this.1.2
theorem Lk.drewK (h : Lk w g hb db l ds) : Lk w.drew g hb db l ds := h.keep ((Only.refl [] w).drew)
theorem holdI_none {l : List Hd} {u : ByteArray} (h : holdL l u = none) : findL Prod.fst l u = none := by simpa [holdL] using h

set_option maxRecDepth 100000 in
set_option maxHeartbeats 4000000 in
theorem take_any (h : Lk w g hb db l ds) (u : ByteArray) (hu : u.size ≤ 281474976710656) (c : Int) (hl : l.length ≤ 1000000) :
    Calls Try.prog 9 #[.pointer (some ⟨g, 0, none⟩), .string u, .int .i64 c] w (Lkd w g (fpL g hb db) (.bool (takeB l u c)) (takeL l u c) ds) := by
  obtain ⟨c0, c1⟩ := h.cells
  have hlk := look_hv Try.underlying41 zeroI h.hv (s := u) (by unfold maxLen; omega)
  have hkey := key_of u (by unfold maxLen; omega)
  have hmm := @run_makeMap Try.prog
  have hq0 : ∀ W, (binOp .eql 41 (.map none) (.map none)).run Try.prog W = .ok (.bool true) W := fun W => eql_mapG Try.underlying41 W none
  have hq1 : ∀ W m, (binOp .eql 41 (.map (some m)) (.map none)).run Try.prog W = .ok (.bool false) W := fun W m => eql_mapG Try.underlying41 W (some m)
  cases hh : holdL l u with
  | some d =>
    have HB : Hid (takeB l u c = decide (d = c)) := by show _ = _; unfold takeB; rw [hh]
    have HL : Hid (takeL l u c = l) := by show _ = _; unfold takeL; rw [hh]
    rw [hh] at hlk
    simp only [Option.getD_some, Option.isSome_some] at hlk
    have H := Lib.hid h
    clear h hh hkey
    have hb2 : ((d == c) : Bool) = decide (d = c) := by by_cases e : d = c <;> simp [e]
    obtain ⟨q, hq⟩ : ∃ q, q = decide (d = c) := ⟨_, rfl⟩
    rw [← hq] at hb2
    have HQ := Lib.hid hq
    clear hq
    go_enter Try.func9, Try.ntmps9
    go_wp2
    go_ret
    rw [HL.out, HB.out]
    exact ⟨by rw [← HQ.out, ← hb2]; rfl, _, ⟨hb, db, H.out, rfl⟩, Only.refl _ _, fun _ hk => .inl hk⟩
  | none =>
    have HB : Hid (takeB l u c = true) := by show _ = _; unfold takeB; rw [hh]
    have HL : Hid (takeL l u c = putL Prod.fst (u, c) l) := by show _ = _; unfold takeL; rw [hh]
    rw [hh] at hlk
    simp only [Option.getD_none, Option.isSome_none] at hlk
    have hc0 : heldP isI (.int .i64 c) = some (.held (.int .i64 c), []) := heldP_mk rfl
    have HP := Lib.hid (put_DK (u, Value.int .i64 c) (kvI l))
    have HP2 := Lib.hid (put_kvI (u, c) l)
    rw [HL.out, HB.out]
    cases hb with
    | none =>
      obtain rfl := hvis_none h.hv
      obtain ⟨H1, O1⟩ := h.newH
      have hsz : (w.setCell ⟨g, 0, none⟩ (.map (some w.heap.size))).heap.size = w.heap.size := by simp [World.setCell]
      have hgz : g < w.heap.size := h.bk.lt
      have hfr := h.bk.free 0
      clear h hh
      go_enter Try.func9, Try.ntmps9
      go_wp2
      generalize hW : (w.setCell ⟨g, 0, none⟩ (.map (some w.heap.size))).alloc (.map #[] 0) = w1 at *
      generalize hG : w.heap.size = m at *
      have HGE : Hid (w.heap.size ≤ m) := by show _ ≤ _; omega
      clear hW hG c0 c1 hsz hgz hfr hlk hq0 hq1 hmm
      have HCL := Lib.hid (fun W => qclone_any u W hu)
      have HST := Lib.hid (fun (W : World) (hm : W.ownsMap Try.prog 9 (heldP isI) m 0 (DK [])) => World.ownsMap.store hm keyed Try.underlying41 (by decide) hkey hc0)
      obtain ⟨c0, c1⟩ := H1.cells
      have HH1 := Lib.hid H1
      have hgm : g ≠ m := H1.ne0
      clear H1
      go_region_held3 (fun w' => w'.cell? ⟨g, 0, none⟩ = some (.map (some m))) (first | go_keep | exact c22 | exact c33)
        ((go_at_call 22; refine (HCL.out _).mono ?_; rintro e w2 ⟨rfl, O2⟩; have H2 := HH1.out.drewK.keep O2; have c22 := H2.cells.1; obtain ⟨w3, hrun, own3, turn3⟩ := HST.out _ H2.ownH; have c33 := (Only.of_turned turn3).cellSome c22 (by simpa using hgm)))
      go_wp2
      go_ret
      have o3 : Only [m] w2 w3 := Only.of_turned turn3
      refine ⟨rfl, _, ⟨some m, db, H2.turnH ?_ o3, rfl⟩, ?_, fun k hk => ?_⟩
      · have e : DK (kvI (putL Prod.fst (u, c) [])) = (DK []).put (keyLit u) (.held (.int .i64 c)) := by rw [← HP2.out]; exact (HP.out).symm
        exact KvAt.of (by rw [e]; exact own3)
      · exact (((O1.then ((Only.refl [] _).drew.then O2)).trans o3 (fun x hx => by simp at hx; subst hx; exact .inr HGE.out))).mono (fun x hx => by simp at hx; subst hx; exact .inl (by simp [fpL]))
      · simp only [fpL, Option.toList_some, List.cons_append, List.nil_append, List.mem_cons] at hk ⊢
        rcases hk with rfl | rfl | hk
        · exact .inl (.inl rfl)
        · exact .inr HGE.out
        · exact .inl (.inr (by simpa using hk))
    | some m =>
      have hlen : (kvI l).length ≤ 1000000 := by simpa [kvI] using hl
      have H1 := h
      have hgm : g ≠ m := H1.ne0
      clear h hh
      go_enter Try.func9, Try.ntmps9
      go_wp2
      have HCL := Lib.hid (fun W => qclone_any u W hu)
      have HST := Lib.hid (fun (W : World) (hm : W.ownsMap Try.prog 9 (heldP isI) m (kvI l).length (DK (kvI l))) => World.ownsMap.store hm keyed Try.underlying41 (by unfold maxLen; omega) hkey hc0)
      have HH1 := Lib.hid H1
      clear H1 hmm hlk hlen hl hq0 hq1
      go_region_held3 (fun w' => w'.cell? ⟨g, 0, none⟩ = some (.map (some m))) (first | go_keep | exact c22 | exact c33)
        ((go_at_call 22; refine (HCL.out _).mono ?_; rintro e w2 ⟨rfl, O2⟩; have H2 := HH1.out.drewK.keep O2; have c22 := H2.cells.1; obtain ⟨w3, hrun, own3, turn3⟩ := HST.out _ H2.ownH; have c33 := (Only.of_turned turn3).cellSome c22 (by simpa using hgm)))
      go_wp2
      go_ret
      have o3 : Only [m] w2 w3 := Only.of_turned turn3
      refine ⟨rfl, _, ⟨some m, db, H2.turnH ?_ o3, rfl⟩, ?_, fun k hk => .inl hk⟩
      · have e : DK (kvI (putL Prod.fst (u, c) l)) = (DK (kvI l)).put (keyLit u) (.held (.int .i64 c)) := by rw [← HP2.out]; exact (HP.out).symm
        exact KvAt.of (by rw [e]; exact own3)
      · exact ((((Only.refl [] _).drew.then O2).mono (ss := fpL g (some m) db) (fun x hx => nomatch hx)).trans o3 (fun x hx => by simp at hx; subst hx; exact .inl (by simp [fpL])))
end
end Go.Proofs.Ytmjkdfneohpbjaa
