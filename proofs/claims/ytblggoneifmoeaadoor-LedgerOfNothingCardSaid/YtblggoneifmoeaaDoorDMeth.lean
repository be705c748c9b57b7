/-
  Words for whole calls of disk: how a disk is put together again behind a call; New, Used, Fuse, Read.
-/
import Derived.Test.YtblggoneifmoeaaDoorDPut
namespace Go.Proofs.YtblggoneifmoeaaDoor
open Go.RowKit Go.Maps

theorem upd_ins {f : Fl} {h : Fl → Fl} (hn : (h f).name = f.name) : ∀ {fs : List Fl}, (∀ g ∈ fs, g.name ≠ f.name) → upd (ins f fs) f.name h = ins (h f) fs
  | [], _ => by simp [ins, upd]
  | g :: r, hx => by
    have h1 : g.name ≠ f.name := hx g (by simp)
    have h2 : upd r f.name h = r := by
      unfold upd
      conv => rhs; rw [← List.map_id r]
      exact List.map_congr_left fun x hm => if_neg (hx x (by simp [hm]))
    unfold ins
    rw [hn]
    split
    · unfold upd at h2 ⊢
      simp [h1, h2]
    · have ih := upd_ins hn (fs := r) fun x hm => hx x (by simp [hm])
      unfold upd at ih ⊢
      simp [h1, ih]
theorem get_ins {f : Fl} : ∀ {fs : List Fl}, (∀ g ∈ fs, g.name ≠ f.name) → get (ins f fs) f.name = some f
  | [], _ => by simp [ins, get]
  | g :: r, hx => by
    have h1 : g.name ≠ f.name := hx g (by simp)
    unfold ins
    split
    · simp [get]
    · have ih := get_ins (fs := r) fun x hm => hx x (by simp [hm])
      unfold get at ih ⊢
      simp [h1, ih]

theorem tick_fuse {S : St} {lf : Nat} (h : ∀ k, S.fuse = some k → lf = k) : ∀ k, (tick S).fuse = some k → (if S.fuse.isSome then lf - 1 else lf) = k := by
  intro k hk
  unfold tick at hk
  cases hS : S.fuse with
  | none => rw [hS] at hk; cases hk
  | some j =>
    rw [hS] at hk
    simp at hk
    have := h j hS
    simp
    omega
theorem tick_some (S : St) : (tick S).fuse.isSome = S.fuse.isSome := by unfold tick; cases S.fuse <;> rfl
theorem tick_fs (S : St) : (tick S).fs = S.fs := rfl
theorem tick_room (S : St) : (tick S).room = S.room := rfl

/-- The disk stands again, and one more is done. -/
theorem did_mk {w w' : World} {d room u lf : Nat} {fz : Bool} {mb mb' : Option Nat} {cs cs' : List Fc} {S' : St} {v : Value} {e : Ending} (he : e = .returned v)
    (h : Dk w' d room u fz lf mb' cs') (h1 : S'.room = room) (h2 : used S'.fs = u) (h3 : S'.fuse.isSome = fz) (h4 : cs'.map (·.f) = S'.fs) (h5 : ∀ k, S'.fuse = some k → lf = k) (h6 : u ≤ room)
    (o : Only (fpt d mb cs) w w') (hF : ∀ x ∈ fpt d mb' cs', x ∈ fpt d mb cs ∨ w.heap.size ≤ x) : Did d (fpt d mb cs) S' v w e w' := by
  refine ⟨he, fpt d mb' cs', ⟨lf, mb', cs', ?_, h4, h5, ?_, rfl⟩, o, hF⟩
  · rw [h1, h2, h3]; exact h
  · rw [h2, h1]; exact h6
/-- Nothing has turned. -/
theorem did_same {w w' : World} {d : Nat} {F : List Nat} {S : St} {v : Value} {e : Ending} (he : e = .returned v) (h : Disk w d F S) (o : Only [] w w') : Did d F S v w e w' :=
  ⟨he, F, h.keep o, o.mono (fun _ hx => by cases hx), fun x hx => .inl hx⟩

/-- A new disk. -/
def Made (S : St) (w : World) (e : Ending) (w' : World) : Prop :=
  ∃ d, e = .returned (.tuple #[.pointer (some ⟨d, 0, none⟩), .int .i64 0]) ∧ Disk w' d [d] S ∧ Only [] w w' ∧ w.heap.size ≤ d
theorem dk_new (w : World) (r : Nat) (hr : r ≤ 1073741824) {u : Nat} (hu : u ≤ 1073741824) : Dk (w.alloc (.cells #[.int .i64 r, .int .i64 u, .map none, .bool false, .int .i64 0] 53)) w.heap.size r u false 0 none [] :=
  { bk := Bk.new w _ _, map := rfl, file := fun _ h => (by cases h), good := ⟨List.Pairwise.nil, Nat.zero_le _, fun _ h => (by cases h), fun _ h => (by cases h)⟩, nb := List.nodup_nil, na := List.nodup_nil, room' := hr, u' := hu, lf' := Nat.zero_le _, big := fun _ h => (by cases h) }

section
variable {w : World}
theorem new_any (r : Nat) (hr : r ≤ 1073741824) : Calls Tryd.prog 8 #[.int .i64 r] w (Made ⟨r, [], none⟩ w) := by
  have hk := dk_new w r hr (Nat.zero_le 1073741824)
  have HK := Lib.hid hk
  clear hk
  go_enter Tryd.func8, Tryd.ntmps8
  go_wp2
  go_ret2
  exact ⟨w.heap.size, rfl, ⟨0, none, [], HK.out, rfl, fun _ h => (by cases h), Nat.zero_le _, rfl⟩, (Only.refl _ _).alloc _, Nat.le_refl _⟩
theorem new_bad (r : Int) (hr : r < 0 ∨ 1073741824 < r) : Calls Tryd.prog 8 #[.int .i64 r] w fun e w' => e = .returned (.tuple #[.pointer none, .int .i64 1]) ∧ w = w' := by
  by_cases h0 : r < 0
  · clear hr
    go_enter Tryd.func8, Tryd.ntmps8
    go_wp2
    go_ret2
    exact ⟨rfl, rfl⟩
  · have h1 : 1073741824 < r := by omega
    have h2 : 0 ≤ r := by omega
    clear hr h0
    go_enter Tryd.func8, Tryd.ntmps8
    go_wp2
    go_ret2
    exact ⟨rfl, rfl⟩

variable {d : Nat} {F : List Nat} {S : St}
theorem fuse_nil (n : Int) : Calls Tryd.prog 10 #[.pointer none, .int .i64 n] w fun e w' => e = .returned (.tuple #[]) ∧ w = w' := by
  go_enter Tryd.func10, Tryd.ntmps10
  go_wp2
  refine bodyPost_ret (results_none rfl _ _ _) rfl ?_
  exact ⟨rfl, rfl⟩
theorem fuse_any (h : Disk w d F S) (n : Int) (hn : n ≤ 9223372036854775807) : Calls Tryd.prog 10 #[.pointer (some ⟨d, 0, none⟩), .int .i64 n] w (Did d F (fuseS S n) (.tuple #[]) w) := by
  obtain ⟨lf, mb, cs, hk, h1, h2, h3, rfl⟩ := h
  obtain ⟨_, _, _, c3, c4⟩ := hk.cell
  have f3 := hk.bk.free 3
  have f4 := hk.bk.free 4
  obtain ⟨k, hkk⟩ : ∃ k, k = n.toNat := ⟨_, rfl⟩
  have hmax : max n 0 = (k : Int) := by omega
  have hkb : k ≤ 9223372036854775807 := by omega
  have H3 : Hid (∀ b, Dk ((w.setCell ⟨d, 3, none⟩ (.bool b)).setCell ⟨d, 4, none⟩ (.int .i64 k)) d S.room (used S.fs) b k mb cs) := fun b => (hk.setFused b).setLeft k hkb
  have HO : Hid (∀ b, Only (fpt d mb cs) w ((w.setCell ⟨d, 3, none⟩ (.bool b)).setCell ⟨d, 4, none⟩ (.int .i64 k))) := fun b => ((Only.refl _ _).setCell (.inl (by simp [fpt])) _).setCell (.inl (by simp [fpt])) _
  have HK := Lib.hid hkk
  have HH1 := Lib.hid h1
  have HH3 := Lib.hid h3
  clear hk hkk h1 h2 h3
  by_cases h0 : n < 0
  · go_enter Tryd.func10, Tryd.ntmps10
    go_wp2
    go_end0
    refine did_mk rfl (H3.out (decide (0 ≤ n))) rfl rfl ?_ HH1.out ?_ HH3.out (HO.out (decide (0 ≤ n))) (fun x hx => .inl hx)
    · simp [fuseS, h0]
    · intro k hk; simp [fuseS, h0] at hk
  · have h0' : 0 ≤ n := by omega
    go_enter Tryd.func10, Tryd.ntmps10
    go_wp2
    go_end0
    refine did_mk rfl (H3.out true) rfl rfl ?_ HH1.out ?_ HH3.out (HO.out true) (fun x hx => .inl hx)
    · simp [fuseS, h0]
    · intro j hj
      simp [fuseS, h0] at hj
      rw [HK.out, hj]

/-- What is read, in new memory. -/
def Bytes (p : List UInt8) (r : Nat) (w : World) (e : Ending) (w' : World) : Prop :=
  ∃ A c, e = .returned (.tuple #[.slice A p.length c, .int .i64 r]) ∧ Own w' 5 A p.length c (bvs p) ∧ Only [] w w' ∧ ∀ k ∈ blks A, w.heap.size ≤ k
theorem read_nil (s : ByteArray) : Calls Tryd.prog 19 #[.pointer none, .string s] w (Bytes [] 7 w) := by
  go_enter Tryd.func19, Tryd.ntmps19
  go_wp2
  go_ret2
  exact ⟨none, 0, rfl, Own.nil _ _, Only.refl _ _, fun _ h => by cases h⟩
theorem findC_get {cs : List Fc} {fs : List Fl} (h : cs.map (·.f) = fs) (s : ByteArray) : get fs s = (findC cs s).map (·.f) := by rw [map_findC, h]
set_option maxRecDepth 100000 in
theorem read_any (h : Disk w d F S) (s : ByteArray) (hs : s.size ≤ maxLen) : Calls Tryd.prog 19 #[.pointer (some ⟨d, 0, none⟩), .string s] w (Bytes (readD S s) (readE S s) w) := by
  obtain ⟨lf, mb, cs, hk, h1, h2, h3, rfl⟩ := h
  obtain ⟨_, _, c2, _, _⟩ := hk.cell
  cases hc : findC cs s with
  | none =>
    have hg := findC_get h1 s
    rw [hc] at hg
    have e1 : readD S s = [] := by unfold readD; rw [hg]; rfl
    have e2 : readE S s = 7 := by unfold readE; rw [hg]; rfl
    rw [e1, e2]
    have hl := look_none hk.map hs hc
    clear hc hg e1 e2 hk h1 h2 h3
    go_enter Tryd.func19, Tryd.ntmps19
    go_wp2
    go_ret2
    exact ⟨none, 0, rfl, Own.nil _ _, Only.refl _ _, fun _ h => by cases h⟩
  | some c =>
    have hg := findC_get h1 s
    rw [hc] at hg
    have e1 : readD S s = c.f.data := by unfold readD; rw [hg]; rfl
    have e2 : readE S s = 0 := by unfold readE; rw [hg]; rfl
    rw [e1, e2]
    have hm := (findC_some hc).1
    have hl := look_hit hk.map hs hc
    obtain ⟨g0, _⟩ := hk.fcell hm
    have hown := (hk.file _ hm).2
    have hbig := hk.big _ hm
    have HC := Lib.hid (clone_any c.A c.f.data.length c.cap c.f.data w hown.sl (by omega))
    clear hc hg e1 e2 hk h1 h2 h3 hown hbig hm
    go_enter Tryd.func19, Tryd.ntmps19
    go_wp2_with (go_at_call 29; refine HC.out.mono ?_; rintro e w1 ⟨A1, c1, rfl, V1, O1, B1⟩)
    go_ret2
    exact ⟨A1, c1, rfl, V1, O1, B1⟩
end
end Go.Proofs.YtblggoneifmoeaaDoor
