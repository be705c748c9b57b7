/-
  What the laws' scripts do, as plain data: disks of one file, and the like.
-/
import Derived.Test.YtbciompelpbkdaaDKnown
namespace Go.Proofs.Ytbciompelpbkdaa
open Go.RowKit Go.Maps

section
variable {room : Nat} {fu : Option Nat} {s : ByteArray} {p q : List UInt8} {la : Nat}
theorem errB_ok (hs : okName s = true) (hf : fu ≠ some 0) (fs : List Fl) : errB ⟨room, fs, fu⟩ [s] = 0 := by simp [errB, hf, hs]
theorem app_new (hs : okName s = true) (hf : fu ≠ some 0) (hp : p.length ≤ room) : errA ⟨room, [], fu⟩ s p = 0 ∧ appendS ⟨room, [], fu⟩ s p = ⟨room, [⟨s, p, 0⟩], fu.map (· - 1)⟩ := by
  have h1 : errA ⟨room, [], fu⟩ s p = 0 := errA_ok (errB_ok hs hf _) (by simpa [used] using hp) (.inr (by simp))
  exact ⟨h1, by rw [appendS_ok h1]; simp [doA, tick, get, ins]⟩
theorem app_file (hs : okName s = true) (hf : fu ≠ some 0) (hp : q.length + p.length ≤ room) : errA ⟨room, [⟨s, q, la⟩], fu⟩ s p = 0 ∧ appendS ⟨room, [⟨s, q, la⟩], fu⟩ s p = ⟨room, [⟨s, q ++ p, la⟩], fu.map (· - 1)⟩ := by
  have h1 : errA ⟨room, [⟨s, q, la⟩], fu⟩ s p = 0 := errA_ok (errB_ok hs hf _) (by simpa [used] using hp) (.inr (by simp))
  exact ⟨h1, by rw [appendS_ok h1]; simp [doA, tick, get, upd]⟩
theorem app_dead (fs : List Fl) : errA ⟨room, fs, some 0⟩ s p = 9 ∧ appendS ⟨room, fs, some 0⟩ s p = ⟨room, fs, some 0⟩ := by
  have h1 : errA ⟨room, fs, some 0⟩ s p = 9 := errA_err (by simp [errB]) (by omega)
  exact ⟨h1, appendS_same h1 (by omega)⟩
theorem sync_file (hs : okName s = true) (hf : fu ≠ some 0) : errF ⟨room, [⟨s, q, la⟩], fu⟩ s = 0 ∧ syncS ⟨room, [⟨s, q, la⟩], fu⟩ s = ⟨room, [⟨s, q, q.length⟩], fu.map (· - 1)⟩ := by
  have h1 : errF ⟨room, [⟨s, q, la⟩], fu⟩ s = 0 := errF_ok (errB_ok hs hf _) (f := ⟨s, q, la⟩) (by simp [get])
  exact ⟨h1, by rw [syncS_ok h1]; simp [tick, upd, synced]⟩
theorem read_file : readD ⟨room, [⟨s, q, la⟩], fu⟩ s = q ∧ readE ⟨room, [⟨s, q, la⟩], fu⟩ s = 0 := by simp [readD, readE, get]
theorem read_empty : readD ⟨room, [], fu⟩ s = [] ∧ readE ⟨room, [], fu⟩ s = 7 := by simp [readD, readE, get]
/-- Append of no byte, where there is no fuse and not too many files. -/
theorem app_none {S : St} (hs : okName s = true) (hf : S.fuse = none) (hu : used S.fs ≤ S.room) (hl : S.fs.length < 4096) : errA S s [] = 0 := errA_ok (by simp [errB, hf, hs]) (by simpa using hu) (.inr hl)
end
def nameF : ByteArray := ⟨#[102]⟩
def nameX : ByteArray := ⟨#[120]⟩
def nameY : ByteArray := ⟨#[121]⟩
def nameZ : ByteArray := ⟨#[122]⟩
def nameNone : ByteArray := ⟨#[110, 111, 110, 101]⟩
theorem okF : okName nameF = true := by kernel_rfl
theorem okX : okName nameX = true := by kernel_rfl
theorem okY : okName nameY = true := by kernel_rfl
theorem okZ : okName nameZ = true := by kernel_rfl
theorem okNone : okName nameNone = true := by kernel_rfl
theorem neFN : nameF ≠ nameNone := by decide
theorem neXY : nameX ≠ nameY := by decide
theorem neXZ : nameX ≠ nameZ := by decide
theorem neYZ : nameY ≠ nameZ := by decide

/-! ### DiskFuses -/
/-- The disk behind k appends with a fuse of m. -/
def fuS (m : Nat) (ls : List (List UInt8)) (k : Nat) : St := ⟨1048576, if min m k = 0 then [] else [⟨nameF, cat ls (min m k), 0⟩], some (m - k)⟩
theorem fuS_zero (m : Nat) (ls : List (List UInt8)) : fuseS ⟨1048576, [], none⟩ (m : Int) = fuS m ls 0 := by
  have : ¬ ((m : Int) < 0) := by omega
  simp [fuseS, fuS, this]
theorem fuS_step {m : Nat} {ls : List (List UInt8)} {k : Nat} (hk : k < ls.length) (ht : ls.flatten.length ≤ 8000) (hm : k < m) : errA (fuS m ls k) nameF ls[k] = 0 ∧ appendS (fuS m ls k) nameF ls[k] = fuS m ls (k + 1) := by
  have h1 : min m k = k := by omega
  have h2 : min m (k + 1) = k + 1 := by omega
  have h3 : (some (m - k) : Option Nat) ≠ some 0 := by simp; omega
  have h4 := catLen_le ls (k + 1)
  have h5 := catLen_succ ls k hk
  have h6 : m - k - 1 = m - (k + 1) := by omega
  unfold fuS
  rw [h1, h2]
  by_cases h0 : k = 0
  · subst h0
    have hc : cat ls 1 = ls[0] := by rw [cat_succ ls 0 hk, cat_zero]; rfl
    have := app_new (room := 1048576) (p := ls[0]) okF h3 (by omega)
    simpa [hc, h6] using this
  · have hq : (cat ls k).length = catLen ls k := rfl
    have := app_file (room := 1048576) (q := cat ls k) (p := ls[k]) (la := 0) okF h3 (by omega)
    rw [if_neg h0, if_neg (by omega), cat_succ ls k hk]
    simpa [h6] using this
theorem fuS_burnt {m : Nat} {ls : List (List UInt8)} {k : Nat} (hm : m ≤ k) (p : List UInt8) : errA (fuS m ls k) nameF p = 9 ∧ appendS (fuS m ls k) nameF p = fuS m ls (k + 1) := by
  have h1 : min m k = m := by omega
  have h2 : min m (k + 1) = m := by omega
  have h3 : m - k = 0 := by omega
  have h4 : m - (k + 1) = 0 := by omega
  unfold fuS
  rw [h1, h2, h3, h4]
  exact app_dead _
theorem fuS_none {m : Nat} {ls : List (List UInt8)} {k : Nat} : (errF (fuS m ls k) nameNone = if k < m then 7 else 9) ∧ removeS (fuS m ls k) nameNone = fuS m ls k := by
  have hg : get (fuS m ls k).fs nameNone = none := by
    unfold fuS
    dsimp only
    split
    · rfl
    · simp [get, neFN]
  by_cases hm : k < m
  · have hb : errB (fuS m ls k) [nameNone] = 0 := by
      unfold fuS
      exact errB_ok okNone (by simp; omega) _
    have h1 := errF_none hb hg
    exact ⟨by rw [h1, if_pos hm], removeS_same h1 (by omega)⟩
  · have hb : errB (fuS m ls k) [nameNone] = 9 := by
      have : m - k = 0 := by omega
      unfold fuS errB
      simp [this]
    have h1 := errF_err hb (by omega)
    exact ⟨by rw [h1, if_neg hm], removeS_same h1 (by omega)⟩
theorem fuS_len (m : Nat) (ls : List (List UInt8)) (k : Nat) : (fuS m ls k).fs.length ≤ 1 := by
  unfold fuS
  dsimp only
  split <;> simp

/-! ### DiskKeeps -/
/-- The disk behind k rows, of which the first sy were synced; and ahead of the sync of the last one. -/
def kpS (sy : Nat) (ls : List (List UInt8)) (k : Nat) : St := ⟨1048576, if k = 0 then [] else [⟨nameF, cat ls k, catLen ls (min k sy)⟩], none⟩
def kpT (sy : Nat) (ls : List (List UInt8)) (k : Nat) : St := ⟨1048576, [⟨nameF, cat ls (k + 1), catLen ls (min k sy)⟩], none⟩
theorem kpS_app {sy : Nat} {ls : List (List UInt8)} {k : Nat} (hk : k < ls.length) (ht : ls.flatten.length ≤ 8000) : errA (kpS sy ls k) nameF ls[k] = 0 ∧ appendS (kpS sy ls k) nameF ls[k] = kpT sy ls k := by
  have h4 := catLen_le ls (k + 1)
  have h5 := catLen_succ ls k hk
  unfold kpS kpT
  by_cases h0 : k = 0
  · subst h0
    have hc : cat ls 1 = ls[0] := by rw [cat_succ ls 0 hk, cat_zero]; rfl
    have hz : catLen ls (min 0 sy) = 0 := by rw [Nat.zero_min]; rfl
    have := app_new (room := 1048576) (fu := none) (p := ls[0]) okF (by simp) (by omega)
    rw [hz]
    simpa [hc] using this
  · have hq : (cat ls k).length = catLen ls k := rfl
    have := app_file (room := 1048576) (fu := none) (q := cat ls k) (p := ls[k]) (la := catLen ls (min k sy)) okF (by simp) (by omega)
    rw [if_neg h0, cat_succ ls k hk]
    simpa using this
theorem kpT_sync {sy : Nat} {ls : List (List UInt8)} {k : Nat} (h : k < sy) : errF (kpT sy ls k) nameF = 0 ∧ syncS (kpT sy ls k) nameF = kpS sy ls (k + 1) := by
  have h1 : min (k + 1) sy = k + 1 := by omega
  have := sync_file (room := 1048576) (fu := none) (q := cat ls (k + 1)) (la := catLen ls (min k sy)) okF (by simp)
  unfold kpT kpS
  rw [if_neg (by omega), h1]
  exact this
theorem kpT_stays {sy : Nat} {ls : List (List UInt8)} {k : Nat} (h : sy ≤ k) : kpT sy ls k = kpS sy ls (k + 1) := by
  have h1 : min (k + 1) sy = min k sy := by omega
  unfold kpT kpS
  rw [if_neg (by omega), h1]
theorem catLen_mono (ls : List (List UInt8)) {a b : Nat} (h : a ≤ b) : catLen ls a ≤ catLen ls b := by
  unfold catLen cat
  have hs : ls.take a = (ls.take b).take a := by rw [List.take_take, Nat.min_eq_left h]
  rw [hs]
  have := congrArg List.length (congrArg List.flatten (List.take_append_drop a (ls.take b)))
  rw [List.flatten_append, List.length_append] at this
  omega
/-- Behind the crash so many bytes are there: those that lasted, and perhaps more. -/
theorem kpS_crash {sy : Nat} {ls : List (List UInt8)} {k : Nat} (h0 : k ≠ 0) (draw : Int) :
    ∃ st, catLen ls (min k sy) ≤ st ∧ st ≤ catLen ls k ∧ readD (crashS (kpS sy ls k) draw) nameF = (cat ls k).take st ∧ readE (crashS (kpS sy ls k) draw) nameF = 0 := by
  have hm : catLen ls (min k sy) ≤ (cat ls k).length := catLen_mono ls (Nat.min_le_left k sy)
  have hst := stay_le draw ⟨nameF, cat ls k, catLen ls (min k sy)⟩ hm
  refine ⟨stay draw ⟨nameF, cat ls k, catLen ls (min k sy)⟩, hst.1, hst.2, ?_⟩
  unfold kpS
  rw [if_neg h0]
  exact read_file
theorem kpS_empty {sy : Nat} {ls : List (List UInt8)} (draw : Int) : readD (crashS (kpS sy ls 0) draw) nameF = [] ∧ readE (crashS (kpS sy ls 0) draw) nameF = 7 := by
  unfold kpS
  exact read_empty

/-! ### DiskRoom -/
section
variable {S : St} {s : ByteArray} {p : List UInt8}
theorem get_upd {fs : List Fl} {f : Fl} {h : Fl → Fl} (hn : ∀ f, (h f).name = f.name) (hg : get fs s = some f) : get (upd fs s h) s = some (h f) := by
  induction fs with
  | nil => cases hg
  | cons g r ih =>
    unfold get at hg
    rw [List.find?_cons] at hg
    unfold upd get
    rw [List.map_cons, List.find?_cons]
    by_cases e : g.name = s
    · simp only [e, decide_true] at hg
      injection hg with hg
      subst hg
      simp [e, hn]
    · simp only [e, decide_false] at hg
      have hd : decide (g.name = s) = false := by simp [e]
      simp only [if_neg e, hd]
      exact ih hg
theorem doA_read : readD (doA S s p) s = readD S s ++ p := by
  unfold readD doA
  rw [tick_fs]
  cases hg : get S.fs s with
  | none =>
    simp only []
    have := get_ins (f := ⟨s, p, 0⟩) (fs := S.fs) (get_none.1 hg)
    dsimp only at this
    rw [this]
    rfl
  | some f =>
    simp only []
    rw [get_upd (h := fun f => { f with data := f.data ++ p }) (fun _ => rfl) hg]
theorem used_upd {fs : List Fl} {f : Fl} {h : Fl → Fl} (hr : fs.Pairwise fun f g => bef f.name g.name = true) (hg : get fs s = some f) : used (upd fs s h) + f.data.length = used fs + (h f).data.length := by
  obtain ⟨hm, rfl⟩ := get_some hg
  obtain ⟨P, Q, hs⟩ := List.append_of_mem hm
  rw [upd_split hs hr h, hs, used_append, used_append]
  simp only [used]
  omega
theorem used_doA (hr : S.fs.Pairwise fun f g => bef f.name g.name = true) : used (doA S s p).fs = used S.fs + p.length := by
  unfold doA
  rw [tick_fs]
  cases hg : get S.fs s with
  | none =>
    simp only []
    rw [used_ins]
    dsimp only
    omega
  | some f =>
    simp only []
    have := used_upd (h := fun f => { f with data := f.data ++ p }) hr hg
    simp only [List.length_append] at this
    omega
theorem length_doA : (doA S s p).fs.length ≤ S.fs.length + 1 := by
  unfold doA
  rw [tick_fs]
  cases get S.fs s with
  | none => simp only []; rw [length_ins]; exact Nat.le_refl _
  | some f => simp only []; unfold upd; rw [List.length_map]; omega
theorem app_fits (hs : okName s = true) (hf : S.fuse = none) (hl : S.fs.length < 4096) (hr : S.fs.Pairwise fun f g => bef f.name g.name = true) (hp : used S.fs + p.length ≤ S.room) :
    errA S s p = 0 ∧ readD (appendS S s p) s = readD S s ++ p ∧ used (appendS S s p).fs = used S.fs + p.length ∧ (appendS S s p).fs.length ≤ S.fs.length + 1 ∧ (appendS S s p).fuse = none ∧ (appendS S s p).room = S.room := by
  have h1 : errA S s p = 0 := errA_ok (by simp [errB, hf, hs]) hp (.inr hl)
  rw [appendS_ok h1]
  exact ⟨h1, doA_read, used_doA hr, length_doA, by simp [doA, tick, hf], rfl⟩
theorem app_over (hs : okName s = true) (hf : S.fuse = none) (hp : ¬ used S.fs + p.length ≤ S.room) : errA S s p = 6 ∧ appendS S s p = S := by
  have h1 : errA S s p = 6 := errA_full (by simp [errB, hf, hs]) (.inl (by omega))
  exact ⟨h1, appendS_same h1 (by omega)⟩
end
/-- The law's names. -/
def nameI (j : Nat) : ByteArray := ⟨#[102, UInt8.ofNat (j % 3)]⟩
theorem okI (j : Nat) : okName (nameI j) = true := by
  have : (nameI j).size = 2 := rfl
  unfold okName
  rw [this]
  decide
end Go.Proofs.Ytbciompelpbkdaa
