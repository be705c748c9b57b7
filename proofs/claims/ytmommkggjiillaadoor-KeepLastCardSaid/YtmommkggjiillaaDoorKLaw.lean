/-
  keep: what follows from what Save does: a Save that errs leaves what was there; what is saved is there, whole; other files stay.
-/
import Derived.Test.YtmommkggjiillaaDoorKSave
namespace Go.Proofs.YtmommkggjiillaaDoor
open Go.RowKit Go.Maps

section
variable {fs : List Fl} {s t : ByteArray}
theorem get_del_ne (h : s ≠ t) : get (del fs t) s = get fs s := by
  unfold get del
  rw [List.find?_filter]
  congr 1
  funext f
  by_cases e : f.name = s
  · have : f.name ≠ t := by rw [e]; exact h
    simp [e, h]
  · simp [e]
theorem get_del_self : get (del fs t) t = none := get_none.2 fun _ h => (mem_del.1 h).2
theorem get_ins_ne {f : Fl} (h : f.name ≠ s) : ∀ {fs : List Fl}, get (ins f fs) s = get fs s
  | [] => by simp [ins, get, h]
  | g :: r => by
    unfold ins
    split
    · simp [get, h]
    · have ih := get_ins_ne h (fs := r)
      unfold get at ih ⊢
      rw [List.find?_cons, List.find?_cons, ih]
theorem get_upd_ne {k : Fl → Fl} (hk : ∀ f, (k f).name = f.name) (h : s ≠ t) : get (upd fs t k) s = get fs s := by
  unfold get upd
  rw [List.find?_map]
  have e : ((fun f : Fl => decide (f.name = s)) ∘ fun f => if f.name = t then k f else f) = fun f => decide (f.name = s) := by
    funext f
    simp only [Function.comp]
    split
    · rw [hk]
    · rfl
  rw [e]
  cases hf : List.find? (fun f : Fl => decide (f.name = s)) fs with
  | none => rfl
  | some f =>
    have := List.find?_some hf
    have hn : f.name = s := by simpa using this
    simp [hn, h]
theorem get_upd_self {k : Fl → Fl} (hk : ∀ f, (k f).name = f.name) : get (upd fs t k) t = (get fs t).map k := by
  unfold get upd
  rw [List.find?_map]
  have e : ((fun f : Fl => decide (f.name = t)) ∘ fun f => if f.name = t then k f else f) = fun f => decide (f.name = t) := by
    funext f
    simp only [Function.comp]
    split
    · rw [hk]
    · rfl
  rw [e]
  cases hf : List.find? (fun f : Fl => decide (f.name = t)) fs with
  | none => rfl
  | some f =>
    have := List.find?_some hf
    have hn : f.name = t := by simpa using this
    simp [hn]
theorem get_moved {a b : ByteArray} {f : Fl} (h : get fs a = some f) (hne : a ≠ b) : get (moved fs a b) b = some { f with name := b } := by
  unfold moved
  rw [h]
  simp only [if_neg hne]
  exact get_ins (f := { f with name := b }) fun g hg => by
    obtain ⟨h1, _⟩ := mem_del.1 hg
    exact (mem_del.1 h1).2
theorem get_moved_ne {a b x : ByteArray} (ha : x ≠ a) (hb : x ≠ b) : get (moved fs a b) x = get fs x := by
  unfold moved
  split
  · rfl
  · split
    · rfl
    · rw [get_ins_ne (by simpa using hb.symm), get_del_ne ha, get_del_ne hb]
theorem used_del_le : used (del fs s) ≤ used fs := by
  induction fs with
  | nil => simp [del, used]
  | cons g r ih =>
    unfold del at ih ⊢
    rw [List.filter_cons]
    split
    · simp only [used]; omega
    · simp only [used]; omega
theorem used_del_mem {f : Fl} (h : f ∈ fs) (hn : f.name = s) : used (del fs s) + f.data.length ≤ used fs := by
  induction fs with
  | nil => cases h
  | cons g r ih =>
    have hr := used_del_le (fs := r) (s := s)
    unfold del at ih hr ⊢
    rw [List.filter_cons]
    rcases List.mem_cons.1 h with rfl | h
    · simp only [hn, decide_true, Bool.not_true, used]
      simp only [Bool.false_eq_true, if_false]
      omega
    · have := ih h
      split
      · simp only [used]; omega
      · simp only [used]; omega
theorem len_del_le : (del fs s).length ≤ fs.length := List.length_filter_le _ _
theorem len_del_mem {f : Fl} (h : f ∈ fs) (hn : f.name = s) : (del fs s).length + 1 ≤ fs.length := by
  have : (del fs s).length < fs.length := by
    unfold del
    rw [List.length_filter_lt_length_iff_exists]
    exact ⟨f, h, by simp [hn]⟩
  omega
end

/-! ### each step of Save -/
section
variable {S : St} {s t x : ByteArray} {b p : List UInt8}
theorem get_remove (h : errF S t = 0 ∨ errF S t = 7) : get (removeS S t).fs t = none := by
  unfold removeS
  split
  · rw [tick_fs]; exact get_del_self
  · rename_i h0
    have h7 : errF S t = 7 := by omega
    have : errB S [t] = 0 := by
      have := errB_cases S [t]
      unfold errF at h7
      by_cases hb : errB S [t] = 0
      · exact hb
      · rw [if_pos hb] at h7; omega
    unfold errF at h7
    rw [this] at h7
    simp only [ne_eq, not_true_eq_false, if_false] at h7
    split at h7
    · assumption
    · cases h7
theorem get_remove_ne (h : x ≠ t) : get (removeS S t).fs x = get S.fs x := by
  unfold removeS
  split
  · rw [tick_fs]; exact get_del_ne h
  · rfl
theorem get_append (h : errA S t b = 0) (hn : get S.fs t = none) : get (appendS S t b).fs t = some ⟨t, b, 0⟩ := by
  unfold appendS doA
  rw [if_pos h, tick_fs, hn]
  exact get_ins (f := ⟨t, b, 0⟩) (get_none.1 hn)
theorem get_append_ne (h : x ≠ t) : get (appendS S t b).fs x = get S.fs x := by
  unfold appendS doA
  split
  · rw [tick_fs]
    simp only []
    split
    · exact get_ins_ne (Ne.symm h)
    · exact get_upd_ne (fun _ => rfl) h
  · rfl
theorem get_sync (h : errF S t = 0) : get (syncS S t).fs t = (get S.fs t).map synced := by
  unfold syncS
  rw [if_pos h, tick_fs]
  exact get_upd_self fun _ => rfl
theorem get_sync_ne (h : x ≠ t) : get (syncS S t).fs x = get S.fs x := by
  unfold syncS
  split
  · rw [tick_fs]; exact get_upd_ne (fun _ => rfl) h
  · rfl
theorem get_write (h : writeE S t b = 0) : get (writeS S t b).fs t = some ⟨t, b, b.length⟩ := by
  unfold writeE at h
  unfold writeS
  split at h
  · rename_i h1
    rw [if_pos h1]
    split at h
    · rename_i h2
      rw [if_pos h2, get_sync h, get_append h2 (get_remove h1)]
      rfl
    · rename_i h2; exact absurd h h2
  · rename_i h1; exact absurd (.inl h) h1
theorem get_write_ne (h : x ≠ t) : get (writeS S t b).fs x = get S.fs x := by
  unfold writeS
  split
  · split
    · rw [get_sync_ne h, get_append_ne h, get_remove_ne h]
    · exact get_remove_ne h
  · rfl
theorem tilde_size (s : ByteArray) : (tilde s).size = s.size + 1 := by
  unfold tilde
  rw [ByteArray.size_append]
  rfl
theorem tilde_ne (s : ByteArray) : s ≠ tilde s := fun e => by
  have := congrArg ByteArray.size e
  rw [tilde_size] at this
  omega
theorem get_save (h : saveE S s p = 0) : get (saveS S s p).fs s = some ⟨s, record p, (record p).length⟩ := by
  unfold saveE at h
  unfold saveS
  split at h
  · rename_i h1
    rw [if_pos h1]
    unfold wholeE at h
    unfold wholeS
    split at h
    · rename_i h2
      rw [if_pos h2]
      unfold renameS
      rw [if_pos h, tick_fs]
      exact get_moved (get_write h2) (tilde_ne s).symm
    · rename_i h2; exact absurd h h2
  · cases h
theorem get_save_err (h : saveE S s p ≠ 0) : get (saveS S s p).fs s = get S.fs s := by
  unfold saveE at h
  unfold saveS
  split at h
  · rename_i h1
    rw [if_pos h1]
    unfold wholeE at h
    unfold wholeS
    split at h
    · rename_i h2
      rw [if_pos h2]
      unfold renameS
      rw [if_neg h]
      exact get_write_ne (tilde_ne s)
    · rename_i h2
      rw [if_neg h2]
      exact get_write_ne (tilde_ne s)
  · rename_i h1; rw [if_neg h1]
theorem get_save_ne (h : x ≠ s) (h' : x ≠ tilde s) : get (saveS S s p).fs x = get S.fs x := by
  unfold saveS wholeS
  split
  · split
    · unfold renameS
      split
      · rw [tick_fs, get_moved_ne h' h]
        exact get_write_ne h'
      · exact get_write_ne h'
    · exact get_write_ne h'
  · rfl

/-! ### a calm disk: no fuse, room enough -/
theorem tick_calm (hf : S.fuse = none) : tick S = S := by
  unfold tick
  rw [hf]
  obtain ⟨r, f, z⟩ := S
  simp only [] at hf
  subst hf
  rfl
theorem errB_calm (hf : S.fuse = none) {l : List ByteArray} (hn : l.all okName = true) : errB S l = 0 := by
  unfold errB
  rw [hf, hn]
  rfl
/-- How much Save wants. -/
structure Calm (S : St) (n k : Nat) : Prop where
  fuse : S.fuse = none
  room : used S.fs + n ≤ S.room
  len : S.fs.length + k ≤ 4096
theorem save_calm {n k : Nat} (h : Calm S (n + (12 + p.length)) (k + 1)) (hs : okLen s = true) : saveE S s p = 0 ∧ Calm (saveS S s p) n k ∧ (saveS S s p).room = S.room := by
  obtain ⟨z1, z2⟩ := good_len hs
  have hts := tilde_size s
  have o1 : okName (tilde s) = true := by unfold okName; simp; omega
  have o2 : okName s = true := by unfold okName; simp; omega
  have hrl : (record p).length = 12 + p.length := record_len p
  obtain ⟨hf, hr, hl⟩ := h
  -- Remove
  have b1 : errB S [tilde s] = 0 := errB_calm hf (by simp [o1])
  have h1 : errF S (tilde s) = 0 ∨ errF S (tilde s) = 7 := by
    unfold errF
    rw [b1]
    simp only [ne_eq, not_true_eq_false, if_false]
    split
    · exact .inr rfl
    · exact .inl rfl
  obtain ⟨S1, hS1⟩ : ∃ S1, S1 = removeS S (tilde s) := ⟨_, rfl⟩
  have g1 : get S1.fs (tilde s) = none := by rw [hS1]; exact get_remove h1
  have c1 : S1.fuse = none ∧ S1.room = S.room ∧ used S1.fs ≤ used S.fs ∧ S1.fs.length ≤ S.fs.length := by
    rw [hS1]
    unfold removeS
    split
    · rw [tick_calm (by exact hf)]
      exact ⟨hf, rfl, used_del_le, len_del_le⟩
    · exact ⟨hf, rfl, Nat.le_refl _, Nat.le_refl _⟩
  obtain ⟨f1, r1, u1, l1⟩ := c1
  -- Append
  have h2 : errA S1 (tilde s) (record p) = 0 := by
    unfold errA
    rw [errB_calm f1 (by simp [o1])]
    simp only [ne_eq, not_true_eq_false, if_false]
    rw [if_neg]
    rintro (hx | ⟨_, hx⟩) <;> omega
  obtain ⟨S2, hS2⟩ : ∃ S2, S2 = appendS S1 (tilde s) (record p) := ⟨_, rfl⟩
  have g2 : get S2.fs (tilde s) = some ⟨tilde s, record p, 0⟩ := by rw [hS2]; exact get_append h2 g1
  have c2 : S2.fuse = none ∧ S2.room = S.room ∧ used S2.fs = used S1.fs + (12 + p.length) ∧ S2.fs.length = S1.fs.length + 1 := by
    rw [hS2]
    unfold appendS doA
    rw [if_pos h2, tick_calm (by exact f1), g1]
    refine ⟨f1, r1, ?_, length_ins _ _⟩
    show used (ins _ _) = _
    rw [used_ins]
    show (record p).length + _ = _
    omega
  obtain ⟨f2, r2, u2, l2⟩ := c2
  -- Sync
  have h3 : errF S2 (tilde s) = 0 := by
    unfold errF
    rw [errB_calm f2 (by simp [o1]), g2]
    simp
  obtain ⟨S3, hS3⟩ : ∃ S3, S3 = syncS S2 (tilde s) := ⟨_, rfl⟩
  have g3 : get S3.fs (tilde s) = some ⟨tilde s, record p, (record p).length⟩ := by rw [hS3, get_sync h3, g2]; rfl
  have c3 : S3.fuse = none ∧ S3.room = S.room ∧ used S3.fs = used S2.fs ∧ S3.fs.length = S2.fs.length := by
    rw [hS3]
    unfold syncS
    rw [if_pos h3, tick_calm (by exact f2)]
    refine ⟨f2, r2, ?_, by simp [upd]⟩
    show used (upd _ _ _) = _
    unfold upd
    generalize S2.fs = l
    induction l with
    | nil => rfl
    | cons g r ih =>
      simp only [List.map_cons, used, ih]
      split <;> rfl
  obtain ⟨f3, r3, u3, l3⟩ := c3
  -- Rename
  have hw : writeE S (tilde s) (record p) = 0 := by unfold writeE; rw [if_pos h1, ← hS1, if_pos h2, ← hS2]; exact h3
  have hw' : writeS S (tilde s) (record p) = S3 := by unfold writeS; rw [if_pos h1, ← hS1, if_pos h2, ← hS2, hS3]
  have h4 : errR S3 (tilde s) s = 0 := by
    unfold errR
    rw [errB_calm f3 (by simp [o1, o2]), g3]
    simp
  have e1 : saveE S s p = 0 := by unfold saveE wholeE; rw [if_pos hs, if_pos hw, hw']; exact h4
  have e2 : saveS S s p = { S3 with fs := moved S3.fs (tilde s) s } := by
    unfold saveS wholeS
    rw [if_pos hs, if_pos hw, hw']
    unfold renameS
    rw [if_pos h4, tick_calm (by exact f3)]
  refine ⟨e1, ?_, by rw [e2]; exact r3⟩
  rw [e2]
  have hm := (get_some g3).1
  have hn := (get_some g3).2
  have hmd : (⟨tilde s, record p, (record p).length⟩ : Fl) ∈ del S3.fs s := mem_del.2 ⟨hm, (tilde_ne s).symm⟩
  have q1 := used_del_mem hmd hn
  have q2 := used_del_le (fs := S3.fs) (s := s)
  have q3 := len_del_mem hmd hn
  have q4 := len_del_le (fs := S3.fs) (s := s)
  have hmv : moved S3.fs (tilde s) s = ins ⟨s, record p, (record p).length⟩ (del (del S3.fs s) (tilde s)) := by
    unfold moved
    rw [g3]
    simp only [if_neg (tilde_ne s).symm]
  simp only [] at q1
  refine ⟨f3, ?_, ?_⟩
  · show used (moved _ _ _) + _ ≤ S3.room
    rw [hmv, used_ins, r3]
    show (record p).length + _ + _ ≤ _
    omega
  · show (moved _ _ _).length + _ ≤ _
    rw [hmv, length_ins]
    omega

/-! ### behind a crash; what Load tells -/
theorem get_crash {draw : Int} {f : Fl} (h : get S.fs s = some f) (hl : f.lasts = f.data.length) : get (crashS S draw).fs s = some f := by
  unfold crashS
  simp only []
  unfold get at h ⊢
  rw [List.find?_map]
  have e : ((fun f : Fl => decide (f.name = s)) ∘ crashF draw) = fun f => decide (f.name = s) := by funext f; rfl
  rw [e, h]
  simp only [Option.map_some, Option.some.injEq]
  obtain ⟨nm, da, la⟩ := f
  simp only [] at hl
  subst hl
  have : stay draw ⟨nm, da, da.length⟩ = da.length := by simp [stay, Nat.mod_one]
  unfold crashF
  rw [this]
  simp
theorem get_crash_none {draw : Int} (h : get S.fs s = none) : get (crashS S draw).fs s = none := by
  unfold crashS
  simp only []
  unfold get at h ⊢
  rw [List.find?_map]
  have e : ((fun f : Fl => decide (f.name = s)) ∘ crashF draw) = fun f => decide (f.name = s) := by funext f; rfl
  rw [e, h]
  rfl
theorem calm_crash {n k : Nat} {draw : Int} (h : Calm S n k) : Calm (crashS S draw) n k := by
  obtain ⟨h1, h2, h3⟩ := h
  refine ⟨rfl, ?_, by simpa [crashS] using h3⟩
  have : used (crashS S draw).fs ≤ used S.fs := by
    unfold crashS
    simp only []
    generalize S.fs = l
    induction l with
    | nil => simp [used]
    | cons g r ih =>
      simp only [List.map_cons, used]
      have : (crashF draw g).data.length ≤ g.data.length := by simp [crashF, List.length_take]; omega
      omega
  show used (crashS S draw).fs + n ≤ S.room
  omega
theorem one_record (hp : p.length ≤ 1048576) : oneBad (record p) = 0 ∧ oneBody (record p) = p := by
  have h := record_good p [] hp
  rw [List.append_nil] at h
  have h2 : ¬ size (record p) < (record p).length := by rw [h.2.2, record_len]; omega
  exact ⟨(one_2 h.1 h2).1, by rw [(one_2 h.1 h2).2]; exact h.2.1⟩
theorem load_saved {n : Nat} (h : get S.fs s = some ⟨s, record p, n⟩) (hp : p.length ≤ 1048576) : loadE S s = 0 ∧ loadD S s = p := by
  have h1 : readE S s = 0 := by unfold readE; rw [h]
  have h2 : readD S s = record p := by unfold readD; rw [h]
  obtain ⟨o1, o2⟩ := one_record hp
  exact ⟨by unfold loadE; rw [if_pos h1, h2, if_pos o1], by unfold loadD; rw [if_pos h1, h2, o2]⟩
theorem load_none (h : get S.fs s = none) : loadE S s = 7 ∧ loadD S s = [] := by
  have h1 : readE S s = 7 := by unfold readE; rw [h]
  exact ⟨by unfold loadE; rw [h1]; rfl, by unfold loadD; rw [h1]; rfl⟩
end

/-! ### rows that a call's text lays -/
section
variable {w : World}
theorem rw_one_at {A : Option Addr} {n c : Nat} {l : List UInt8} (hs : Sl w A n (bvs l)) (g : Nat) (hg : g = w.heap.size) : Rw (w.alloc (.cells #[.slice A n c] 32)) (some ⟨g, 0, none⟩) 1 [l] := by
  have hl : l.length = n := by simpa using hs.len
  subst hl hg
  exact Rw.one (Bk.new w _ _) (hs.alloc _)
theorem rw_two_at {A A2 : Option Addr} {n c n2 c2 : Nat} {l l2 : List UInt8} (hs : Sl w A n (bvs l)) (hs2 : Sl w A2 n2 (bvs l2)) (g : Nat) (hg : g = w.heap.size) :
    Rw (w.alloc (.cells #[.slice A n c, .slice A2 n2 c2] 32)) (some ⟨g, 0, none⟩) 2 [l, l2] := by
  have hl : l.length = n := by simpa using hs.len
  have hl2 : l2.length = n2 := by simpa using hs2.len
  subst hl hl2 hg
  exact Rw.two (Bk.new w _ _) (hs.alloc _) (hs2.alloc _)
theorem sl_lit (l : List UInt8) (xs : Array Value) (n g : Nat) (fr : Nat × Nat) (hx : xs.toList = bvs l) (hn : xs.size = n) (hg : g = w.heap.size) : Sl (w.alloc (.cells xs 5 fr)) (some ⟨g, 0, none⟩) n (bvs l) := by
  subst hg hn
  rw [← hx]
  exact Sl.of_new w xs _ fr
end
end Go.Proofs.YtmommkggjiillaaDoor
