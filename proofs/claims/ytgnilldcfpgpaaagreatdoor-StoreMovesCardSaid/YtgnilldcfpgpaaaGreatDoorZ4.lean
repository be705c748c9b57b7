/-
  Texts of the seat, laid one behind the other: VMsg Quiet VLeaf VIs CIs CIsC DMath Rise SMath VIs3.
-/
import Derived.Test.YtgnilldcfpgpaaaGreatDoorZ3
import Derived.Test.YtgnilldcfpgpaaaGreatDoorZ1
import Derived.Handy
import Derived.Deep.DeepMust
import Derived.WalkKit
import Derived.Lib.OthersKept
import Derived.Shelf.Abstract
import Derived.Deep.LoopGhost
import Derived.Laws.RangeAny
import Derived.Deep.QuietTactic
import Derived.BigQuiet
import Derived.Lib.Strings
import Derived.Sort.KeysCollected
namespace Go.Proofs.YtgnilldcfpgpaaaGreatDoor
open Go.RowKit Go.Instr
def MX (S : Nat → Prop) (w : World) (xs : List Value) (l : List Mg) : Prop :=
  ∀ (k : Nat) (m : Mg), l[k]? = some m → ∃ Ab cb, xs[k * 4]? = some (.int .i64 m.uid) ∧ xs[k * 4 + 1]? = some (.int .i64 m.flags) ∧ xs[k * 4 + 2]? = some (.int .i64 m.date) ∧ xs[k * 4 + 3]? = some (.slice Ab m.body.length cb) ∧
    Sl w Ab m.body.length (bvs m.body) ∧ (0 < m.body.length → ∀ ad, Ab = some ad → S ad.block)
def Ms (S : Nat → Prop) (w : World) (A : Option Addr) (n : Nat) (l : List Mg) : Prop :=
  l.length = n ∧ ∃ xs : List Value, xs.length = n * 4 ∧ (0 < n → ∃ ad, A = some ad ∧ S ad.block ∧ ∀ j u, xs[j]? = some u → w.cell? (ad.add j) = some u) ∧ MX S w xs l
structure MgAt (S : Nat → Prop) (w : World) (p : Addr) (m : Mg) (Ab : Option Addr) (cb : Nat) : Prop where
  c0 : w.cell? p = some (.int .i64 m.uid)
  c1 : w.cell? ⟨p.block, p.off + 1, none⟩ = some (.int .i64 m.flags)
  c2 : w.cell? ⟨p.block, p.off + 2, none⟩ = some (.int .i64 m.date)
  c3 : w.cell? ⟨p.block, p.off + 3, none⟩ = some (.slice Ab m.body.length cb)
  sl : Sl w Ab m.body.length (bvs m.body)
  st : 0 < m.body.length → ∀ ad, Ab = some ad → S ad.block
section
variable {S S' : Nat → Prop} {w w' : World} {A : Option Addr} {n c : Nat} {l : List Mg} {rs : List Nat} {xs : List Value}
theorem MX.nil (S : Nat → Prop) (w : World) (xs : List Value) : MX S w xs [] := fun k m h => by simp at h
theorem MX.mono (h : MX S w xs l) (hs : ∀ x, S x → S' x) : MX S' w xs l := fun k m hm => by
  obtain ⟨Ab, cb, h0, h1, h2, h3, h4, h5⟩ := h k m hm
  exact ⟨Ab, cb, h0, h1, h2, h3, h4, fun hp ad e => hs _ (h5 hp ad e)⟩
theorem MX.only (h : MX S w xs l) (o : Only rs w w') (hd : ∀ x, S x → x ∉ rs) : MX S w' xs l := fun k m hm => by
  obtain ⟨Ab, cb, h0, h1, h2, h3, h4, h5⟩ := h k m hm
  exact ⟨Ab, cb, h0, h1, h2, h3, h4.only' o (fun hp ad e => hd _ (h5 hp ad e)), h5⟩
theorem MX.lt (h : MX S w xs l) : MX (fun x => S x ∧ x < w.heap.size) w xs l := fun k m hm => by
  obtain ⟨Ab, cb, h0, h1, h2, h3, h4, h5⟩ := h k m hm
  exact ⟨Ab, cb, h0, h1, h2, h3, h4, fun hp ad e => ⟨h5 hp ad e, h4.lt hp ad e⟩⟩
theorem MX.append {ys : List Value} {m : List Mg} (h : MX S w xs l) (h2 : MX S w ys m) (hx : xs.length = l.length * 4) : MX S w (xs ++ ys) (l ++ m) := fun k q hq => by
  rcases Nat.lt_or_ge k l.length with hk | hk
  · rw [List.getElem?_append_left hk] at hq
    obtain ⟨Ab, cb, e0, e1, e2, e3, r⟩ := h k q hq
    exact ⟨Ab, cb, by rw [List.getElem?_append_left (by omega)]; exact e0, by rw [List.getElem?_append_left (by omega)]; exact e1, by rw [List.getElem?_append_left (by omega)]; exact e2, by rw [List.getElem?_append_left (by omega)]; exact e3, r⟩
  · rw [List.getElem?_append_right hk] at hq
    obtain ⟨Ab, cb, e0, e1, e2, e3, r⟩ := h2 (k - l.length) q hq
    refine ⟨Ab, cb, ?_, ?_, ?_, ?_, r⟩
    · rw [List.getElem?_append_right (by omega), show k * 4 - xs.length = (k - l.length) * 4 by omega]; exact e0
    · rw [List.getElem?_append_right (by omega), show k * 4 + 1 - xs.length = (k - l.length) * 4 + 1 by omega]; exact e1
    · rw [List.getElem?_append_right (by omega), show k * 4 + 2 - xs.length = (k - l.length) * 4 + 2 by omega]; exact e2
    · rw [List.getElem?_append_right (by omega), show k * 4 + 3 - xs.length = (k - l.length) * 4 + 3 by omega]; exact e3
theorem Ms.nil (S : Nat → Prop) (w : World) (A : Option Addr) : Ms S w A 0 [] := ⟨rfl, [], rfl, fun h => absurd h (by omega), MX.nil _ _ _⟩
theorem Ms.len (h : Ms S w A n l) : l.length = n := h.1
theorem Ms.mono (h : Ms S w A n l) (hs : ∀ x, S x → S' x) : Ms S' w A n l := by
  obtain ⟨h1, xs, h2, h3, h4⟩ := h
  exact ⟨h1, xs, h2, fun hn => by obtain ⟨ad, e, h5, h6⟩ := h3 hn; exact ⟨ad, e, hs _ h5, h6⟩, h4.mono hs⟩
theorem Ms.only (h : Ms S w A n l) (o : Only rs w w') (hd : ∀ x, S x → x ∉ rs) : Ms S w' A n l := by
  obtain ⟨h1, xs, h2, h3, h4⟩ := h
  exact ⟨h1, xs, h2, fun hn => by
    obtain ⟨ad, e, h5, h6⟩ := h3 hn
    exact ⟨ad, e, h5, fun j u hu => o.cellSome (h6 j u hu) (by rw [add_block]; exact hd _ h5)⟩, h4.only o hd⟩
theorem Ms.keep (h : Ms S w A n l) (o : Only [] w w') : Ms S w' A n l := h.only o (fun _ _ hm => nomatch hm)
theorem Ms.lt (h : Ms S w A n l) : Ms (fun x => S x ∧ x < w.heap.size) w A n l := by
  obtain ⟨h1, xs, h2, h3, h4⟩ := h
  refine ⟨h1, xs, h2, fun hn => ?_, h4.lt⟩
  obtain ⟨ad, e, h5, h6⟩ := h3 hn
  have := block_lt_of_cell (h6 0 (xs[0]'(by omega)) (List.getElem?_eq_getElem _))
  rw [add_block] at this
  exact ⟨ad, e, ⟨h5, this⟩, h6⟩
theorem add_field (ad : Addr) (i k : Nat) : (⟨(ad.add i).block, (ad.add i).off + (k + 1), none⟩ : Addr) = ad.add (i + (k + 1)) := by
  rw [← add_add]
  rfl
theorem Ms.at_ (h : Ms S w A n l) {k : Nat} (hk : k < n) (hk' : k < l.length) : ∃ ad Ab cb, A = some ad ∧ S ad.block ∧ MgAt S w (ad.add (k * 4)) l[k] Ab cb := by
  obtain ⟨h1, xs, h2, h3, h4⟩ := h
  obtain ⟨ad, e, h5, h6⟩ := h3 (by omega)
  obtain ⟨Ab, cb, e0, e1, e2, e3, e4, e5⟩ := h4 k l[k] (List.getElem?_eq_getElem hk')
  exact ⟨ad, Ab, cb, e, h5, h6 _ _ e0, by rw [add_field]; exact h6 _ _ e1, by rw [add_field]; exact h6 _ _ e2, by rw [add_field]; exact h6 _ _ e3, e4, e5⟩
theorem Ms.of_bk {g : Nat} {t : TypeId} {m : Mg} {Ab : Option Addr} {cb : Nat} (h : Bk w g t #[.int .i64 m.uid, .int .i64 m.flags, .int .i64 m.date, .slice Ab m.body.length cb]) (hg : S g) (hs : Sl w Ab m.body.length (bvs m.body)) (hS : 0 < m.body.length → ∀ ad, Ab = some ad → S ad.block) : Ms S w (some ⟨g, 0, none⟩) 1 [m] :=
  ⟨rfl, [.int .i64 m.uid, .int .i64 m.flags, .int .i64 m.date, .slice Ab m.body.length cb], rfl, fun _ => ⟨_, rfl, hg, fun j u hu => by rw [add_none, Nat.zero_add, h.cell]; simpa using hu⟩, fun k q hq => by
    match k, hq with
    | 0, hq =>
      simp at hq
      subst hq
      exact ⟨Ab, cb, rfl, rfl, rfl, rfl, hs, hS⟩⟩
theorem MX.set {k : Nat} {m : Mg} (h : MX S w xs l) (hk : k < l.length) {ys : List Value} (hy : ∀ j, j / 4 ≠ k → ys[j]? = xs[j]?)
    (Ab : Option Addr) (cb : Nat) (e0 : ys[k * 4]? = some (.int .i64 m.uid)) (e1 : ys[k * 4 + 1]? = some (.int .i64 m.flags)) (e2 : ys[k * 4 + 2]? = some (.int .i64 m.date)) (e3 : ys[k * 4 + 3]? = some (.slice Ab m.body.length cb))
    (hs : Sl w Ab m.body.length (bvs m.body)) (hS : 0 < m.body.length → ∀ ad, Ab = some ad → S ad.block) : MX S w ys (l.set k m) := fun i q hq => by
  rcases Nat.decEq i k with hne | rfl
  · rw [List.getElem?_set_ne (by omega)] at hq
    obtain ⟨A1, c1, f0, f1, f2, f3, r⟩ := h i q hq
    exact ⟨A1, c1, by rw [hy _ (by omega)]; exact f0, by rw [hy _ (by omega)]; exact f1, by rw [hy _ (by omega)]; exact f2, by rw [hy _ (by omega)]; exact f3, r⟩
  · rw [List.getElem?_set_self hk] at hq
    injection hq with hq
    subst hq
    exact ⟨Ab, cb, e0, e1, e2, e3, hs, hS⟩
def Mo (S : Nat → Prop) (w : World) (A : Option Addr) (n c : Nat) (l : List Mg) : Prop :=
  l.length = n ∧ (∀ x ∈ blks A, S x) ∧ ∃ xs, w.ownsRow 0 82 4 (.slice A n c) n xs ∧ MX (fun x => S x ∧ x ∉ blks A) w xs l
theorem Mo.nil (S : Nat → Prop) (w : World) : Mo S w none 0 0 [] := ⟨rfl, (fun _ h => nomatch h), [], ⟨rfl, .inl ⟨rfl, rfl⟩⟩, MX.nil _ _ _⟩
theorem Mo.empty (w : World) (hS : S w.heap.size) : Mo S (w.alloc (.cells #[] 82)) (some ⟨w.heap.size, 0, none⟩) 0 0 [] :=
  ⟨rfl, fun x hx => by simp at hx; subst hx; exact hS, [], ⟨rfl, .inr ⟨w.heap.size, 0, #[], rfl, Nat.zero_le _, heap_alloc_new w _, Nat.le_refl _, Nat.zero_le _, rfl, rfl⟩⟩, MX.nil _ _ _⟩
theorem Mo.len (h : Mo S w A n c l) : l.length = n := h.1
theorem own4_only {xs : List Value} (h : w.ownsRow 0 82 4 (.slice A n c) n xs) (o : Only rs w w') (hd : ∀ x ∈ blks A, x ∉ rs) : w'.ownsRow 0 82 4 (.slice A n c) n xs :=
  own_only h o (fun k hk => hd k (by
    cases A with
    | none => cases hk
    | some a => simp [Value.ownBlock] at hk; simp [hk]))
theorem Mo.only (h : Mo S w A n c l) (o : Only rs w w') (hd : ∀ x, S x → x ∉ rs) : Mo S w' A n c l := by
  obtain ⟨h1, h2, xs, h3, h4⟩ := h
  exact ⟨h1, h2, xs, own4_only h3 o (fun x hx => hd x (h2 x hx)), h4.only o (fun x hx => hd x hx.1)⟩
theorem Mo.keep (h : Mo S w A n c l) (o : Only [] w w') : Mo S w' A n c l := h.only o (fun _ _ hm => nomatch hm)
theorem Mo.mono (h : Mo S w A n c l) (hs : ∀ x, S x → S' x) : Mo S' w A n c l := by
  obtain ⟨h1, h2, xs, h3, h4⟩ := h
  exact ⟨h1, fun x hx => hs x (h2 x hx), xs, h3, h4.mono (fun x hx => ⟨hs x hx.1, hx.2⟩)⟩
theorem Mo.bk (h : Mo S w A n c l) {k : Nat} (hk : k ∈ blks A) : ∃ cur, Bk w k 82 cur := by
  obtain ⟨h1, h2, xs, h3, h4⟩ := h
  refine own_bk h3 ?_
  cases A with
  | none => cases hk
  | some a => simp at hk; simp [Value.ownBlock, hk]
theorem Mo.lt (h : Mo S w A n c l) {k : Nat} (hk : k ∈ blks A) : k < w.heap.size := by
  obtain ⟨cur, hc⟩ := h.bk hk
  exact hc.lt
theorem Mo.form (h : Mo S w A n c l) (hn : 0 < n) : ∃ g, A = some ⟨g, 0, none⟩ := by
  obtain ⟨h1, h2, xs, h3, h4⟩ := h
  obtain ⟨g, cap, hv, _, _⟩ := h3.form hn
  exact ⟨g, by injection hv⟩
theorem Mo.ms (h : Mo S w A n c l) : Ms S w A n l := by
  obtain ⟨h1, h2, xs, h3, h4⟩ := h
  refine ⟨h1, xs, h3.1, fun hn => ?_, h4.mono (fun _ hx => hx.1)⟩
  obtain ⟨g, cap, hv, _, _⟩ := h3.form hn
  have hA : A = some ⟨g, 0, none⟩ := by injection hv
  subst hA
  exact ⟨_, rfl, h2 _ (by simp), h3.cells (g := g) rfl⟩
theorem Mo.apart (h : Mo S w A n c l) {ad : Addr} (hA : A = some ad) {k : Nat} (hk : k < l.length) : ∃ Ab cb, MgAt (fun x => S x ∧ x ≠ ad.block) w (ad.add (k * 4)) l[k] Ab cb ∧ w.frozen? (ad.add (k * 4)) = false ∧ w.frozen? ⟨(ad.add (k * 4)).block, (ad.add (k * 4)).off + 1, none⟩ = false ∧ w.frozen? ⟨(ad.add (k * 4)).block, (ad.add (k * 4)).off + 3, none⟩ = false := by
  obtain ⟨h1, h2, xs, h3, h4⟩ := h
  obtain ⟨g, cap, hv, _, _⟩ := h3.form (by omega)
  have hA' : A = some ⟨g, 0, none⟩ := by injection hv
  subst hA'
  injection hA with hA
  subst hA
  have h6 := h3.cells (g := g) rfl
  obtain ⟨Ab, cb, e0, e1, e2, e3, e4, e5⟩ := h4 k l[k] (List.getElem?_eq_getElem hk)
  refine ⟨Ab, cb, ⟨h6 _ _ e0, by rw [add_field]; exact h6 _ _ e1, by rw [add_field]; exact h6 _ _ e2, by rw [add_field]; exact h6 _ _ e3, e4, fun hp ad e => ⟨(e5 hp ad e).1, fun hh => (e5 hp ad e).2 (by simp [hh])⟩⟩, ?_, ?_, ?_⟩
  · rw [add_none]; exact World.ownsRow.frozenAt h3 _
  · rw [add_field, add_none]; exact World.ownsRow.frozenAt h3 _
  · rw [add_field, add_none]; exact World.ownsRow.frozenAt h3 _
theorem Mo.setFlags (h : Mo S w A n c l) {ad : Addr} (hA : A = some ad) {k : Nat} (hk : k < l.length) (f : Int) :
    Mo S (w.setCell ⟨(ad.add (k * 4)).block, (ad.add (k * 4)).off + 1, none⟩ (.int .i64 f)) A n c (l.set k { l[k] with flags := f }) := by
  obtain ⟨h1, h2, xs, h3, h4⟩ := h
  obtain ⟨g, cap, hv, _, _⟩ := h3.form (by omega)
  have hA' : A = some ⟨g, 0, none⟩ := by injection hv
  subst hA'
  injection hA with hA
  subst hA
  rw [add_field, add_none, Nat.zero_add]
  have hx : xs.length = n * 4 := h3.1
  have hst := (World.ownsRow.stored h3 (k * 4 + 1) (.int .i64 f)).1
  have ho : Only [g] w (w.setCell ⟨g, k * 4 + 1, none⟩ (.int .i64 f)) := (Only.refl _ _).setCell (.inl (by simp)) _
  have h5 := h4.only ho (fun x hx hm => hx.2 (by simpa using hm))
  obtain ⟨Ab, cb, e0, e1, e2, e3, e4, e5⟩ := h5 k l[k] (List.getElem?_eq_getElem hk)
  refine ⟨by rw [List.length_set]; exact h1, h2, _, hst, ?_⟩
  refine h5.set hk (fun j hj => List.getElem?_set_ne (by omega)) Ab cb ?_ ?_ ?_ ?_ e4 e5
  · rw [List.getElem?_set_ne (by omega)]; exact e0
  · rw [List.getElem?_set_self (by omega)]
  · rw [List.getElem?_set_ne (by omega)]; exact e2
  · rw [List.getElem?_set_ne (by omega)]; exact e3
theorem Mo.setBody (h : Mo S w A n c l) {ad : Addr} (hA : A = some ad) {k : Nat} (hk : k < l.length) (Ab : Option Addr) (cb : Nat) (hs : Sl w Ab l[k].body.length (bvs l[k].body)) (hb : 0 < l[k].body.length → ∀ a, Ab = some a → S a.block ∧ a.block ≠ ad.block) :
    Mo S (w.setCell ⟨(ad.add (k * 4)).block, (ad.add (k * 4)).off + 3, none⟩ (.slice Ab l[k].body.length cb)) A n c l := by
  obtain ⟨h1, h2, xs, h3, h4⟩ := h
  obtain ⟨g, cap, hv, _, _⟩ := h3.form (by omega)
  have hA' : A = some ⟨g, 0, none⟩ := by injection hv
  subst hA'
  injection hA with hA
  subst hA
  rw [add_field, add_none, Nat.zero_add]
  have hx : xs.length = n * 4 := h3.1
  have hst := (World.ownsRow.stored h3 (k * 4 + 3) (.slice Ab l[k].body.length cb)).1
  have ho : Only [g] w (w.setCell ⟨g, k * 4 + 3, none⟩ (.slice Ab l[k].body.length cb)) := (Only.refl _ _).setCell (.inl (by simp)) _
  have h5 := h4.only ho (fun x hx hm => hx.2 (by simpa using hm))
  obtain ⟨A0, c0, e0, e1, e2, e3, e4, e5⟩ := h5 k l[k] (List.getElem?_eq_getElem hk)
  refine ⟨h1, h2, _, hst, ?_⟩
  have := h5.set (m := l[k]) hk (ys := xs.set (k * 4 + 3) (.slice Ab l[k].body.length cb)) (fun j hj => List.getElem?_set_ne (by omega)) Ab cb ?_ ?_ ?_ ?_ (hs.only' ho (fun hp a e hm => (hb hp a e).2 (by simpa using hm))) (fun hp a e => ⟨(hb hp a e).1, fun hm => (hb hp a e).2 (by simpa using hm)⟩)
  · rwa [List.set_getElem_self] at this
  · rw [List.getElem?_set_ne (by omega)]; exact e0
  · rw [List.getElem?_set_ne (by omega)]; exact e1
  · rw [List.getElem?_set_ne (by omega)]; exact e2
  · rw [List.getElem?_set_self (by omega)]
end
theorem infoMg : (Tryz.prog.info? 82).map (fun i => (i.zero, i.size, i.bytes)) = some (some (.agg #[.int .i64 0, .int .i64 0, .int .i64 0, .slice none 0 0]), 4, 48) := by kernel_rfl
set_option maxRecDepth 100000 in
theorem run_append_ms {S : Nat → Prop} {w : World} (ty : TypeId) (A : Option Addr) (n c : Nat) (l : List Mg) (h : Mo S w A n c l) (A2 : Option Addr) (m c2 : Nat) (r : List Mg) (h2 : Ms (fun x => S x ∧ x ∉ blks A) w A2 m r) (hS : ∀ x, w.heap.size ≤ x → S x) (hn : n + m ≤ 1000000000000) :
    ∃ A' c' w', (Builtin.append_ #[69, 69] ty #[.slice A n c, .slice A2 m c2]).run Tryz.prog w = .ok (.slice A' (n + m) c') w' ∧ Mo S w' A' (n + m) c' (l ++ r) ∧ Only (blks A) w w' ∧ ∀ k ∈ blks A', k ∈ blks A ∨ w.heap.size ≤ k := by
  obtain ⟨i0, hi, hz0, hz1, hz2⟩ := info_parts infoMg
  by_cases hm : m = 0 ∧ A2 = none
  · obtain ⟨rfl, rfl⟩ := hm
    obtain rfl : r = [] := List.eq_nil_of_length_eq_zero h2.len
    obtain ⟨h1, h0, xs, h3, h4⟩ := h
    refine ⟨A, c, w, run_append_none' 0 69 ty 82 i0 4 Tryz.underlying69 hi _ n xs h3 c2, ?_, Only.refl _ _, fun k hk => .inl hk⟩
    rw [List.append_nil]
    exact ⟨h1, h0, xs, h3, h4⟩
  · have h2' := h2.lt
    obtain ⟨ad, rfl⟩ : ∃ ad, A2 = some ad := by
      cases A2 with
      | some ad => exact ⟨ad, rfl⟩
      | none =>
        obtain ⟨_, xs, _, h5, _⟩ := h2
        obtain ⟨ad, e, _⟩ := h5 (by
          rcases Nat.eq_zero_or_pos m with h0 | h0
          · exact absurd ⟨h0, rfl⟩ hm
          · exact h0)
        exact ⟨ad, e⟩
    obtain ⟨h1, h0, xs, h3, h4⟩ := h
    obtain ⟨k1, ys, k2, k3, k4⟩ := h2'
    have hxl : xs.length = n * 4 := h3.1
    have hcells : ∀ j u, ys[j]? = some u → w.cell? (ad.add j) = some u := fun j u hu => by
      have hj := (List.getElem?_eq_some_iff.1 hu).1
      obtain ⟨ad', e, _, h6⟩ := k3 (by omega)
      injection e with e
      subst e
      exact h6 j u hu
    have hone : ∀ u ∈ ys, u.oneCell' = true := fun u hu => by
      obtain ⟨j, hj, rfl⟩ := List.mem_iff_getElem.1 hu
      have hk : j / 4 < r.length := by omega
      obtain ⟨Ab, cb, e0, e1, e2, e3, _⟩ := k4 (j / 4) r[j / 4] (List.getElem?_eq_getElem hk)
      have hq := List.getElem?_eq_getElem hj
      rcases (by omega : j = j / 4 * 4 ∨ j = j / 4 * 4 + 1 ∨ j = j / 4 * 4 + 2 ∨ j = j / 4 * 4 + 3) with e | e | e | e
      · rw [← e, hq] at e0; injection e0 with e0; rw [e0]; rfl
      · rw [← e, hq] at e1; injection e1 with e1; rw [e1]; rfl
      · rw [← e, hq] at e2; injection e2 with e2; rw [e2]; rfl
      · rw [← e, hq] at e3; injection e3 with e3; rw [e3]; rfl
    obtain ⟨v', w', hrun, r1, r2, _, r4⟩ := run_append_own_at (P := Tryz.prog) w 0 69 ty 82 i0 (.agg #[.int .i64 0, .int .i64 0, .int .i64 0, .slice none 0 0]) 4 48 Tryz.underlying69 hi hz0 hz1 hz2 rfl (by omega) _ n xs h3 ad m c2 ys (by omega) hcells hone (by unfold maxLen; omega) (by omega) (Nat.zero_le _)
    have hform : ∃ A' c', v' = .slice A' (n + m) c' := by
      rcases r1.2 with ⟨rfl, h0⟩ | ⟨g, cap, cur, rfl, _⟩
      · exact ⟨none, 0, by rw [h0]⟩
      · exact ⟨_, _, rfl⟩
    obtain ⟨A', c', rfl⟩ := hform
    have hO : Only (blks A) w w' := by
      have := Only.of_grown r2
      cases A with
      | none => simpa [Value.ownBlock] using this
      | some a => simpa [Value.ownBlock] using this
    have hA' : ∀ k ∈ blks A', k ∈ blks A ∨ w.heap.size ≤ k := fun k hk => by
      cases A' with
      | none => cases hk
      | some a' =>
        simp only [blks_some, List.mem_singleton] at hk
        subst hk
        rcases r4 with r4 | r4
        · left
          cases A with
          | none => simp [Value.ownBlock] at r4
          | some a => simp [Value.ownBlock] at r4; simp [r4]
        · right
          simp [Value.ownBlock] at r4
          omega
    have far : ∀ x, (S x ∧ x ∉ blks A) ∧ x < w.heap.size → S x ∧ x ∉ blks A' := fun x hx => ⟨hx.1.1, fun hm => by
      rcases hA' x hm with h5 | h5
      · exact hx.1.2 h5
      · have := hx.2; omega⟩
    refine ⟨A', c', w', hrun, ⟨by rw [List.length_append]; omega, fun x hx => ?_, xs ++ ys, r1, ?_⟩, hO, hA'⟩
    · rcases hA' x hx with h5 | h5
      · exact h0 x h5
      · exact hS x h5
    · exact ((h4.lt.only hO (fun x hx => hx.1.2)).mono far).append ((k4.only hO (fun x hx => hx.1.2)).mono far) (by omega)
theorem wpList_append_ms {ops : Array Oper} {rest : List Oper} {o : Oper} {a : Act} {w : World} {Q : Exit → Act → World → Prop} (hgd : o.guard = none) (s x : Operand)
    (ho : o.op = .call { callee := .builtin .append, args := #[s, x], argTypes := #[69, 69] }) {S : Nat → Prop} (A : Option Addr) (n c : Nat) (l : List Mg) (hs : a.eval s = .slice A n c) (h : Mo S w A n c l)
    (A2 : Option Addr) (m c2 : Nat) (r : List Mg) (hx : a.eval x = .slice A2 m c2) (h2 : Ms (fun x => S x ∧ x ∉ blks A) w A2 m r) (hS : ∀ x, w.heap.size ≤ x → S x) (hn : n + m ≤ 1000000000000) (q : Nat) (hq : n + m = q)
    (hK : ∀ A' c' w', Mo S w' A' q c' (l ++ r) → Only (blks A) w w' → (∀ k ∈ blks A', k ∈ blks A ∨ w.heap.size ≤ k) → wpList Tryz.prog ops Q rest (a.put o.dst (.slice A' q c')) w') : wpList Tryz.prog ops Q (o :: rest) a w := by
  subst hq
  refine wpList_plain hgd fun K hK2 => ?_
  obtain ⟨A', c', w', hrun, k1, k2, k3⟩ := run_append_ms o.type A n c l h A2 m c2 r h2 hS hn
  unfold Oper.wp execOp
  simp only [ho, resolve, invoke, builtin, Sem.run_bind, Sem.run_pure, Result.andThen_ok, List.map_toArray, List.map_cons, List.map_nil, hs, hx, hrun]
  exact hK2 _ _ (hK A' c' w' k1 k2 k3)
def bxv (b : Bx) (A : Option Addr) (c : Nat) : Value := .agg #[.string (St b.name), .int .i64 b.val, .int .i64 b.next, .slice A b.l.length c]
def bxc (b : Bx) (A : Option Addr) (c : Nat) : Array Value := #[.string (St b.name), .int .i64 b.val, .int .i64 b.next, .slice A b.l.length c]
end Go.Proofs.YtgnilldcfpgpaaaGreatDoor
namespace Go.Proofs.YtgnilldcfpgpaaaGreatDoor
open Go.RowKit
def Quiet (w : World) (v : Value) (e : Ending) (w' : World) : Prop := e = .returned v ∧ ∃ m, w' = w.drewN m
end Go.Proofs.YtgnilldcfpgpaaaGreatDoor
namespace Go.Proofs.YtgnilldcfpgpaaaGreatDoor
open Go.RowKit Go.Instr
set_option maxRecDepth 100000 in
theorem mayMark_any (f d : Int) (w : World) : Calls Tryz.prog 228 #[.int .i64 f, .int .i64 d] w fun e w' => e = .returned (.bool (markOk f d)) ∧ w = w' := by
  obtain ⟨q, hq⟩ : ∃ q, markOk f d = q := ⟨_, rfl⟩
  rw [hq]
  have no : ¬ ((0 ≤ f ∧ f ≤ 31) ∧ 0 ≤ d ∧ d ≤ 1073741824) → Hid (q = false) := fun h => by
    show _ = _
    rw [← hq, Bool.eq_false_iff]
    intro e
    exact h (markOk_iff.1 e)
  by_cases h1 : (0 : Int) ≤ f
  · by_cases h2 : f ≤ 31
    · by_cases h3 : (0 : Int) ≤ d
      · by_cases h4 : d ≤ 1073741824
        · have HQ : Hid (q = true) := by show _ = _; rw [← hq]; exact markOk_iff.2 ⟨⟨h1, h2⟩, h3, h4⟩
          clear hq no
          go_enter Tryz.func228, Tryz.ntmps228
          go_wp2
          go_ret
          exact ⟨by rw [HQ.out]; rfl, rfl⟩
        · have HQ := no (by omega)
          clear hq no
          go_enter Tryz.func228, Tryz.ntmps228
          go_wp2
          go_ret
          exact ⟨by rw [HQ.out]; rfl, rfl⟩
      · have HQ := no (by omega)
        clear hq no
        go_enter Tryz.func228, Tryz.ntmps228
        go_wp2
        go_ret
        exact ⟨by rw [HQ.out]; rfl, rfl⟩
    · have HQ := no (by omega)
      clear hq no
      go_enter Tryz.func228, Tryz.ntmps228
      go_wp2
      go_ret
      exact ⟨by rw [HQ.out]; rfl, rfl⟩
  · have HQ := no (by omega)
    clear hq no
    go_enter Tryz.func228, Tryz.ntmps228
    go_wp2
    go_ret
    exact ⟨by rw [HQ.out]; rfl, rfl⟩
theorem infoBx : (Tryz.prog.info? 71).map (·.size) = some 4 := by kernel_rfl
theorem new_ret {fn : Func} {R : Ending → World → Prop} {tmps : Array Value} {w : World} {s : Nat} (hres : fn.results = #[.cell s 71]) (p : Nat) (b : Bx) (A : Option Addr) (c : Nat) (h2 : tmps.getD s undef = .pointer (some ⟨p, 0, none⟩))
    (hb : Bk w p 71 (bxc b A c)) (hR : R (.returned (bxv b A c)) w) : bodyPost Tryz.prog fn R .ret { tmps := tmps, defers := [] } w := by
  refine bodyPost_ret (v := bxv b A c) ?_ rfl hR
  exact results_cell_row hres tmps w p 71 (bxc b A c) (0, 0) _ h2 hb Tryz.underlying71 rfl infoBx
theorem results_cell_tmp2 {fn : Func} {p u v : Tmp} {ty : TypeId} (h : fn.results = #[.cell p ty, .tmp u, .tmp v]) (tmps : Array Value) (P : Program) (w : World) :
    (results fn tmps).run P w =
      ((asAddr (tmps.getD p undef)).run P w).andThen fun a w₁ => ((loadVar ty a).run P w₁).andThen fun x w₂ => .ok (.tuple #[x, tmps.getD u undef, tmps.getD v undef]) w₂ := by
  simp only [results, h]
  simp [Sem.run_bind, Result.andThen]
theorem box_ret {fn : Func} {R : Ending → World → Prop} {tmps : Array Value} {w : World} {s u : Nat} (hres : fn.results = #[.cell s 71, .tmp u]) (p : Nat) (b : Bx) (A : Option Addr) (c : Nat) (x : Value) (h2 : tmps.getD s undef = .pointer (some ⟨p, 0, none⟩)) (h3 : tmps.getD u undef = x)
    (hb : Bk w p 71 (bxc b A c)) (hR : R (.returned (.tuple #[bxv b A c, x])) w) : bodyPost Tryz.prog fn R .ret { tmps := tmps, defers := [] } w := by
  refine bodyPost_ret (v := .tuple #[bxv b A c, x]) ?_ rfl hR
  rw [results_cell_tmp hres]
  rw [h2, h3]
  simp only [asAddr, Sem.run_pure, Result.andThen_ok]
  rw [run_loadVar_row (P := Tryz.prog) w p 71 71 (bxc b A c) (0, 0) _ hb Tryz.underlying71 rfl infoBx]
  rfl
theorem box_ret2 {fn : Func} {R : Ending → World → Prop} {tmps : Array Value} {w : World} {s u v : Nat} (hres : fn.results = #[.cell s 71, .tmp u, .tmp v]) (p : Nat) (b : Bx) (A : Option Addr) (c : Nat) (x y : Value) (h2 : tmps.getD s undef = .pointer (some ⟨p, 0, none⟩)) (h3 : tmps.getD u undef = x) (h4 : tmps.getD v undef = y)
    (hb : Bk w p 71 (bxc b A c)) (hR : R (.returned (.tuple #[bxv b A c, x, y])) w) : bodyPost Tryz.prog fn R .ret { tmps := tmps, defers := [] } w := by
  refine bodyPost_ret (v := .tuple #[bxv b A c, x, y]) ?_ rfl hR
  rw [results_cell_tmp2 hres]
  rw [h2, h3, h4]
  simp only [asAddr, Sem.run_pure, Result.andThen_ok]
  rw [run_loadVar_row (P := Tryz.prog) w p 71 71 (bxc b A c) (0, 0) _ hb Tryz.underlying71 rfl infoBx]
  rfl
theorem New_any (s : List UInt8) (v : Int) (w : World) : Calls Tryz.prog 195 #[.string (St s), .int .i64 v] w fun e w' => e = .returned (bxv (newB s v) none 0) ∧ Only [] w w' := by
  go_enter Tryz.func195, Tryz.ntmps195
  go_wp2
  exact new_ret (s := 4) (by kernel_rfl) w.heap.size (newB s v) none 0 rfl (Bk.new w _ _) ⟨rfl, (Only.refl [] w).alloc _⟩
end Go.Proofs.YtgnilldcfpgpaaaGreatDoor
namespace Go.Proofs.YtgnilldcfpgpaaaGreatDoor
open Go.RowKit Go.Instr
def okr (r : Nat) : Bool := (decide (97 ≤ r) && decide (r ≤ 122)) || (decide (48 ≤ r) && decide (r ≤ 57))
set_option maxRecDepth 100000 in
theorem Name1_any (r : Nat) (w : World) : Calls Tryz.prog 187 #[.int .i32 (r : Int)] w fun e w' => e = .returned (.bool (!okr r)) ∧ w = w' := by
  obtain ⟨q, hq⟩ : ∃ q, (!okr r) = q := ⟨_, rfl⟩
  rw [hq]
  have key : ∀ b, okr r = b → Hid (q = !b) := fun b h => by show _ = _; rw [← hq, h]
  have yes : okr r = true ↔ (97 ≤ r ∧ r ≤ 122) ∨ (48 ≤ r ∧ r ≤ 57) := by simp [okr]
  have no : ¬ ((97 ≤ r ∧ r ≤ 122) ∨ (48 ≤ r ∧ r ≤ 57)) → okr r = false := fun h => by rw [Bool.eq_false_iff]; exact fun e => h (yes.1 e)
  by_cases h1 : r < 48
  · have HQ := key _ (no (by omega))
    have i1 : (r : Int) < 97 := by omega
    have i2 : (r : Int) < 48 := by omega
    clear hq key yes no h1
    go_enter Tryz.func187, Tryz.ntmps187
    go_wp2
    go_ret
    exact ⟨by rw [HQ.out]; rfl, rfl⟩
  · by_cases h2 : r ≤ 57
    · have HQ := key _ (yes.2 (by omega))
      have i1 : (r : Int) < 97 := by omega
      have i2 : ¬ (r : Int) < 48 := by omega
      have i3 : ¬ (57 : Int) < (r : Int) := by omega
      clear hq key yes no h1 h2
      go_enter Tryz.func187, Tryz.ntmps187
      go_wp2
      go_ret
      exact ⟨by rw [HQ.out]; rfl, rfl⟩
    · by_cases h3 : r < 97
      · have HQ := key _ (no (by omega))
        have i1 : (r : Int) < 97 := by omega
        have i2 : ¬ (r : Int) < 48 := by omega
        have i3 : (57 : Int) < (r : Int) := by omega
        clear hq key yes no h1 h2 h3
        go_enter Tryz.func187, Tryz.ntmps187
        go_wp2
        go_ret
        exact ⟨by rw [HQ.out]; rfl, rfl⟩
      · have i1 : ¬ (r : Int) < 97 := by omega
        have i2 : ¬ (r : Int) < 48 := by omega
        have i3 : (57 : Int) < (r : Int) := by omega
        by_cases h4 : r ≤ 122
        · have HQ := key _ (yes.2 (by omega))
          have i4 : ¬ (122 : Int) < (r : Int) := by omega
          clear hq key yes no h1 h2 h3 h4
          go_enter Tryz.func187, Tryz.ntmps187
          go_wp2
          go_ret
          exact ⟨by rw [HQ.out]; rfl, rfl⟩
        · have HQ := key _ (no (by omega))
          have i4 : (122 : Int) < (r : Int) := by omega
          clear hq key yes no h1 h2 h3 h4
          go_enter Tryz.func187, Tryz.ntmps187
          go_wp2
          go_ret
          exact ⟨by rw [HQ.out]; rfl, rfl⟩
theorem enters_Name1 : ∀ args w, (callFunc 187 args).run Tryz.prog w = .ok (.enter 187 args) w := Go.Proofs.enters_of Tryz.func187 (by kernel_rfl) rfl
theorem rune_ok (s : ByteArray) (pos : Nat) (h : pos < s.size) : okr (Utf8.decode s pos).1 = okc (s[pos]'h) ∧ (okc (s[pos]'h) = true → (Utf8.decode s pos).2 = 1) := by
  by_cases ha : (s[pos]'h).toNat < 128
  · rw [decode_ascii s pos h ha]
    exact ⟨rfl, fun _ => rfl⟩
  · have hd := decode_high s pos h (by omega)
    have h1 : okc (s[pos]'h) = false := by unfold okc; simp; omega
    have h2 : okr (Utf8.decode s pos).1 = false := by unfold okr; simp; omega
    rw [h1, h2]
    exact ⟨rfl, fun e => by cases e⟩
theorem all_take_succ {s : List UInt8} {k : Nat} (h : k < s.length) : (s.take (k + 1)).all okc = ((s.take k).all okc && okc s[k]) := by
  rw [List.take_succ_eq_append_getElem h, List.all_append]
  simp
theorem all_bad {s : List UInt8} {k : Nat} (h : k < s.length) (hb : okc s[k] = false) : s.all okc = false := by
  rw [List.all_eq_false]
  exact ⟨s[k], List.getElem_mem h, by rw [hb]; simp⟩
set_option maxHeartbeats 2000000 in
set_option maxRecDepth 1000000 in
theorem indexFunc_any (s : ByteArray) (w : World) : Calls Tryz.prog 238 #[.string s, .func (.func 187) #[] #[], .bool true] w fun e w' => ∃ I : Int, e = .returned (.int .i64 I) ∧ Hid (decide (0 ≤ I) = !(s.data.toList.all okc)) ∧ Only [] w w' := by
  have eg := enters_Name1
  go_enter Tryz.func238, Tryz.ntmps238
  go_wp2
  go_loopg [] s.size (fun gf wx => ∃ pos : Nat, wx.heap[w.heap.size]? = some (.stringIter s pos) ∧ Below w.heap.size w wx ∧ Hid ((s.data.toList.take pos).all okc = true) ∧ pos ≤ s.size ∧ s.size ≤ pos + gf)
  case atStart => exact ⟨0, World.iter_heap w s 0, (Below.refl _ w).alloc (Nat.le_refl _) _, by show _ = _; simp, Nat.zero_le _, by omega⟩
  case round =>
    obtain ⟨pos, hit, hbw, HA, hle, hfu⟩ := hrel
    by_cases hps : pos < s.size
    · obtain ⟨g', rfl⟩ : ∃ g', gk = g' + 1 := ⟨gk - 1, by omega⟩
      have hnx : ∀ ty, (Instr.next (.pointer (some ⟨w.heap.size, 0, none⟩)) true ty).run Tryz.prog wr = _ := fun ty => Lib.run_next_any_at wr w.heap.size s pos ty hit hps
      obtain ⟨hr1, hr2⟩ := rune_ok s pos hps
      have hpl : pos < s.data.toList.length := by rw [Array.length_toList]; exact hps
      have hge : s.data.toList[pos] = s[pos]'hps := by rw [Array.getElem_toList]; rfl
      have hsuc := all_take_succ hpl
      have hbad := all_bad hpl
      rw [hge] at hsuc hbad
      obtain ⟨R, hR⟩ : ∃ R, (Utf8.decode s pos).1 = R := ⟨_, rfl⟩
      obtain ⟨K, hK⟩ : ∃ K, (Utf8.decode s pos).2 = K := ⟨_, rfl⟩
      rw [hR] at hr1
      rw [hK] at hr2
      rw [hR, hK] at hnx
      have hit2 := Lib.iterAt_heap wr w.heap.size s pos (pos + K) hit
      have hbw2 := Lib.below_iterAt hbw (k := w.heap.size) (Nat.le_refl _) s (pos + K)
      obtain ⟨W, hWd⟩ : ∃ W, wr.iterAt w.heap.size s (pos + K) = W := ⟨_, rfl⟩
      rw [hWd] at hnx hit2 hbw2
      have cS := Name1_any R W
      rw [hr1] at cS
      obtain ⟨b, hb⟩ : ∃ b, okc (s[pos]'hps) = b := ⟨_, rfl⟩
      rw [hb] at cS hr2 hsuc hbad
      cases b
      · have HE : Hid (decide ((0 : Int) ≤ (pos : Int)) = !(s.data.toList.all okc)) := by
          show _ = _
          rw [hbad rfl]
          exact decide_eq_true (by omega)
        clear hbad hsuc hr1 hr2 hb hge hR hK hWd
        go_wp2_with (go_at_fn 187; refine cS.mono ?_; rintro e W' ⟨rfl, rfl⟩)
        go_ret
        exact ⟨pos, rfl, HE.out, Only.of_below hbw2⟩
      · obtain rfl := hr2 rfl
        have HS : Hid ((s.data.toList.take (pos + 1)).all okc = true) := by show _ = _; rw [hsuc, HA.out]; rfl
        clear hbad hsuc hr1 hr2 hb hge hR hK hWd
        go_wp2_with (go_at_fn 187; refine cS.mono ?_; rintro e W' ⟨rfl, rfl⟩)
        go_roundg g'
        case measure => omega
        case rel => exact ⟨pos + 1, hit2, hbw2, HS, by omega, by omega⟩
    · have hend : ∀ ty, (Instr.next (.pointer (some ⟨w.heap.size, 0, none⟩)) true ty).run Tryz.prog wr = _ := fun ty => Lib.run_next_end_at wr w.heap.size s pos ty hit hps
      have HE : Hid (decide ((0 : Int) ≤ -1) = !(s.data.toList.all okc)) := by
        show _ = _
        have := HA.out
        rw [List.take_of_length_le (by rw [Array.length_toList]; exact Nat.le_of_not_lt hps)] at this
        rw [this]
        rfl
      go_wp2
      go_ret
      exact ⟨-1, rfl, HE.out, Only.of_below hbw⟩
theorem IndexFuncS_any (s : ByteArray) (w : World) : Calls Tryz.prog 222 #[.string s, .func (.func 187) #[] #[]] w fun e w' => ∃ I : Int, e = .returned (.int .i64 I) ∧ Hid (decide (0 ≤ I) = !(s.data.toList.all okc)) ∧ Only [] w w' := by
  have hI := indexFunc_any s w
  go_enter Tryz.func222, Tryz.ntmps222
  go_wp2_with (go_at_call 238; with_reducible refine hI.mono ?_; rintro e w2 ⟨I, rfl, HI, O2⟩)
  go_ret
  exact ⟨I, rfl, HI.out, O2⟩
theorem ContainsFuncS_any (s : ByteArray) (w : World) : Calls Tryz.prog 186 #[.string s, .func (.func 187) #[] #[]] w fun e w' => e = .returned (.bool (!(s.data.toList.all okc))) ∧ Only [] w w' := by
  have hI := IndexFuncS_any s w
  go_enter Tryz.func186, Tryz.ntmps186
  go_wp2_with (go_at_call 222; with_reducible refine hI.mono ?_; rintro e w2 ⟨I, rfl, HI, O2⟩)
  go_ret
  exact ⟨by rw [← HI.out]; rfl, O2⟩
set_option maxRecDepth 100000 in
theorem Name_any (s : List UInt8) (w : World) : Calls Tryz.prog 130 #[.string (St s)] w fun e w' => e = .returned (.bool (nameL s)) ∧ Only [] w w' := by
  have hC := ContainsFuncS_any (St s) w
  rw [St_list] at hC
  obtain ⟨q, hq⟩ : ∃ q, nameL s = q := ⟨_, rfl⟩
  rw [hq]
  have hs := St_size s
  by_cases h1 : 1 ≤ s.length
  · by_cases h2 : s.length ≤ 12
    · have HQ : Hid (q = s.all okc) := by show _ = _; rw [← hq]; unfold nameL; simp [h1, h2]
      have i1 : (1 : Int) ≤ ((St s).size : Int) := by omega
      have i2 : ((St s).size : Int) ≤ 12 := by omega
      clear hq hs h1 h2
      obtain ⟨p, hp⟩ : ∃ p, s.all okc = p := ⟨_, rfl⟩
      rw [hp] at hC HQ
      generalize St s = t at *
      clear hp
      cases p
      all_goals
        go_enter Tryz.func130, Tryz.ntmps130
        go_wp2_with (go_at_call 186; go_must (with_reducible refine hC.mono ?_); rintro e w2 ⟨rfl, O2⟩)
        go_ret
        exact ⟨by rw [HQ.out]; rfl, O2⟩
    · have HQ : Hid (q = false) := by show _ = _; rw [← hq]; unfold nameL; simp [h2]
      have i1 : (1 : Int) ≤ ((St s).size : Int) := by omega
      have i2 : ¬ ((St s).size : Int) ≤ 12 := by omega
      clear hq hs h1 h2 hC
      generalize St s = t at *
      go_enter Tryz.func130, Tryz.ntmps130
      go_wp2
      go_ret
      exact ⟨by rw [HQ.out]; rfl, Only.refl _ _⟩
  · have HQ : Hid (q = false) := by show _ = _; rw [← hq]; unfold nameL; simp [h1]
    have i1 : ¬ (1 : Int) ≤ ((St s).size : Int) := by omega
    clear hq hs h1 hC
    generalize St s = t at *
    go_enter Tryz.func130, Tryz.ntmps130
    go_wp2
    go_ret
    exact ⟨by rw [HQ.out]; rfl, Only.refl _ _⟩
end Go.Proofs.YtgnilldcfpgpaaaGreatDoor
namespace Go.Proofs.YtgnilldcfpgpaaaGreatDoor
open Go.RowKit Go.Instr
theorem allp_take_succ {s : List UInt8} {k : Nat} (h : k < s.length) : (s.take (k + 1)).all okp = ((s.take k).all okp && okp s[k]) := by
  rw [List.take_succ_eq_append_getElem h, List.all_append]
  simp
theorem allp_bad {s : List UInt8} {k : Nat} (h : k < s.length) (hb : okp s[k] = false) : s.all okp = false := by
  rw [List.all_eq_false]
  exact ⟨s[k], List.getElem_mem h, by rw [hb]; simp⟩
theorem ups_snoc : ∀ (l : List Int) (last u : Int), ups last (l ++ [u]) = (ups last l && (decide (l.getLast?.getD last < u) && decide (u ≤ 1048576)))
  | [], last, u => by rw [List.nil_append]; simp only [ups, Bool.and_true, Bool.true_and]; rfl
  | x :: r, last, u => by
    rw [List.cons_append, ups, ups, ups_snoc r x u, List.getLast?_cons]
    simp only [Option.getD_some, Bool.and_assoc]
theorem ups_pre : ∀ (l m : List Int) (last : Int), ups last (l ++ m) = true → ups last l = true
  | [], _, _, _ => rfl
  | x :: r, m, last, h => by
    rw [List.cons_append, ups] at h
    rw [ups]
    simp only [Bool.and_eq_true] at h ⊢
    exact ⟨h.1, ups_pre r m x h.2⟩
theorem ups_bad {l : List Int} {k : Nat} (hb : ups 0 (l.take k) = false) : uidsOk l = false := by
  unfold uidsOk
  cases e : ups 0 l with
  | false => rfl
  | true =>
    have := ups_pre (l.take k) (l.drop k) 0 (by rw [List.take_append_drop]; exact e)
    rw [hb] at this
    cases this
end Go.Proofs.YtgnilldcfpgpaaaGreatDoor
namespace Go.Proofs.YtgnilldcfpgpaaaGreatDoor
open Go.RowKit Go.Instr
def chv (c : Ch) (A : Option Addr) (ca : Nat) (B : Option Addr) (cb : Nat) : Value := .agg #[.int .i64 c.kind, .string (St c.user), .string (St c.pass), .string (St c.box), .string (St c.to), .slice A c.uids.length ca, .int .i64 c.mode, .int .i64 c.flags, .int .i64 c.date, .slice B c.body.length cb]
theorem st_empty (s : List UInt8) : ((St s).toList == ([] : List UInt8)) = decide (s = []) := by
  have := St_eq s []
  rw [show (St []).toList = ([] : List UInt8) from by simp [St, ByteArray.toList, ByteArray.toList.loop, ByteArray.size]] at this
  rw [this]
  cases s <;> rfl
theorem bk_ten {w : World} {g : Nat} {t : TypeId} {a0 a1 a2 a3 a4 a5 a6 a7 a8 a9 : Value} (h : Bk w g t #[a0, a1, a2, a3, a4, a5, a6, a7, a8, a9]) :
    w.cell? ⟨g, 0, none⟩ = some a0 ∧ w.cell? ⟨g, 1, none⟩ = some a1 ∧ w.cell? ⟨g, 2, none⟩ = some a2 ∧ w.cell? ⟨g, 3, none⟩ = some a3 ∧ w.cell? ⟨g, 4, none⟩ = some a4 ∧ w.cell? ⟨g, 5, none⟩ = some a5 ∧ w.cell? ⟨g, 6, none⟩ = some a6 ∧ w.cell? ⟨g, 7, none⟩ = some a7 ∧ w.cell? ⟨g, 8, none⟩ = some a8 ∧ w.cell? ⟨g, 9, none⟩ = some a9 :=
  ⟨h.cell 0, h.cell 1, h.cell 2, h.cell 3, h.cell 4, h.cell 5, h.cell 6, h.cell 7, h.cell 8, h.cell 9⟩
end Go.Proofs.YtgnilldcfpgpaaaGreatDoor
namespace Go.Proofs.YtgnilldcfpgpaaaGreatDoor
open Go.RowKit
def bef (a b : ByteArray) : Bool := Op.bytesLess a.toList b.toList
theorem less_before : ∀ (a b : List UInt8), Op.bytesLess a b = bytesBefore a b
  | [], [] => rfl
  | [], _ :: _ => rfl
  | _ :: _, [] => rfl
  | x :: a, y :: b => by simp [Op.bytesLess, bytesBefore, less_before a b]
theorem bef_eq (a b : ByteArray) : bef a b = bytesBefore a.data.toList b.data.toList := by
  unfold bef
  rw [less_before, Lib.toList_data, Lib.toList_data]
theorem name_ext {a b : ByteArray} (h : a.data.toList = b.data.toList) : a = b := WideShapes.bytes_inj h
theorem bef_irrefl (a : ByteArray) : bef a a = false := by rw [bef_eq]; exact WideAt.bytes_irrefl _
theorem bef_trans {a b c : ByteArray} (h : bef a b = true) (h' : bef b c = true) : bef a c = true := by
  rw [bef_eq] at *
  exact WideShapes.bytes_trans _ _ _ h h'
theorem bef_total {a b : ByteArray} (h : a ≠ b) : bef a b = true ∨ bef b a = true := by
  rw [bef_eq, bef_eq]
  exact WideAt.bytes_total _ _ (fun e => h (name_ext e))
theorem bef_ne {a b : ByteArray} (h : bef a b = true) : a ≠ b := by
  rintro rfl
  rw [bef_irrefl] at h
  cases h
theorem bef_asymm {a b : ByteArray} (h : bef a b = true) : bef b a = false := by
  cases h' : bef b a
  · rfl
  · have := bef_trans h h'
    rw [bef_irrefl] at this
    cases this
structure Fl where
  name : ByteArray
  data : List UInt8
  lasts : Nat
structure Dst where
  room : Nat
  fs : List Fl
  fuse : Option Nat
def get (fs : List Fl) (s : ByteArray) : Option Fl := fs.find? fun f => decide (f.name = s)
def del (fs : List Fl) (s : ByteArray) : List Fl := fs.filter fun f => !decide (f.name = s)
def ins (f : Fl) : List Fl → List Fl
  | [] => [f]
  | g :: r => if bef f.name g.name then f :: g :: r else g :: ins f r
def upd (fs : List Fl) (s : ByteArray) (h : Fl → Fl) : List Fl := fs.map fun f => if f.name = s then h f else f
def used : List Fl → Nat
  | [] => 0
  | f :: r => f.data.length + used r
def okName (s : ByteArray) : Bool := decide (1 ≤ s.size ∧ s.size ≤ 64)
def errB (S : Dst) (ss : List ByteArray) : Nat := if S.fuse = some 0 then 9 else if ss.all okName then 0 else 1
def tick (S : Dst) : Dst := { S with fuse := S.fuse.map (· - 1) }
def errA (S : Dst) (s : ByteArray) (p : List UInt8) : Nat :=
  if errB S [s] ≠ 0 then errB S [s] else if S.room < used S.fs + p.length ∨ (get S.fs s = none ∧ 4096 ≤ S.fs.length) then 6 else 0
def doA (S : Dst) (s : ByteArray) (p : List UInt8) : Dst :=
  tick { S with fs := match get S.fs s with | none => ins ⟨s, p, 0⟩ S.fs | some _ => upd S.fs s fun f => { f with data := f.data ++ p } }
def appendS (S : Dst) (s : ByteArray) (p : List UInt8) : Dst := if errA S s p = 0 then doA S s p else S
def errF (S : Dst) (s : ByteArray) : Nat := if errB S [s] ≠ 0 then errB S [s] else if get S.fs s = none then 7 else 0
def synced (f : Fl) : Fl := { f with lasts := f.data.length }
def syncS (S : Dst) (s : ByteArray) : Dst := if errF S s = 0 then tick { S with fs := upd S.fs s synced } else S
def removeS (S : Dst) (s : ByteArray) : Dst := if errF S s = 0 then tick { S with fs := del S.fs s } else S
def errT (S : Dst) (s : ByteArray) (n : Int) : Nat :=
  if errF S s ≠ 0 then errF S s else match get S.fs s with | none => 7 | some f => if n < 0 ∨ (f.data.length : Int) < n then 1 else 0
def cutF (n : Nat) (f : Fl) : Fl := { f with data := f.data.take n, lasts := min f.lasts n }
def truncS (S : Dst) (s : ByteArray) (n : Int) : Dst := if errT S s n = 0 then tick { S with fs := upd S.fs s (cutF n.toNat) } else S
def stay (draw : Int) (f : Fl) : Nat := f.lasts + (max draw 0).toNat % (f.data.length - f.lasts + 1)
def crashF (draw : Int) (f : Fl) : Fl := { f with data := f.data.take (stay draw f), lasts := stay draw f }
def crashS (S : Dst) (draw : Int) : Dst := { S with fs := S.fs.map (crashF draw), fuse := none }
def copyS (S : Dst) : Dst := { S with fuse := none }
def readD (S : Dst) (s : ByteArray) : List UInt8 := match get S.fs s with | none => [] | some f => f.data
def readE (S : Dst) (s : ByteArray) : Nat := match get S.fs s with | none => 7 | some _ => 0
def eachE (err : Dst → ByteArray → Nat) (next : Dst → ByteArray → Dst) : Dst → List ByteArray → Nat
  | _, [] => 0
  | S, s :: r => if err S s = 0 then eachE err next (next S s) r else err S s
def eachS (err : Dst → ByteArray → Nat) (next : Dst → ByteArray → Dst) : Dst → List ByteArray → Dst
  | S, [] => S
  | S, s :: r => if err S s = 0 then eachS err next (next S s) r else S
structure Good (fs : List Fl) : Prop where
  rise : fs.Pairwise fun f g => bef f.name g.name = true
  len : fs.length ≤ 4096
  names : ∀ f ∈ fs, f.name.size ≤ 64
  lasts : ∀ f ∈ fs, f.lasts ≤ f.data.length
theorem errB_cases (S : Dst) (ss : List ByteArray) : errB S ss = 0 ∨ errB S ss = 1 ∨ errB S ss = 9 := by
  unfold errB
  split
  · exact .inr (.inr rfl)
  · split
    · exact .inl rfl
    · exact .inr (.inl rfl)
section
variable {fs : List Fl} {s : ByteArray} {f : Fl}
theorem get_some (h : get fs s = some f) : f ∈ fs ∧ f.name = s := ⟨List.mem_of_find?_eq_some h, by have := List.find?_some h; simpa using this⟩
theorem get_none : get fs s = none ↔ ∀ f ∈ fs, f.name ≠ s := by unfold get; simp
theorem rise_ne (h : fs.Pairwise fun f g => bef f.name g.name = true) : fs.Pairwise fun f g => f.name ≠ g.name := h.imp fun h => bef_ne h
theorem used_append : ∀ (a b : List Fl), used (a ++ b) = used a + used b
  | [], b => by simp [used]
  | f :: a, b => by simp only [List.cons_append, used, used_append a b]; omega
theorem used_le (h : f ∈ fs) : f.data.length ≤ used fs := by
  induction fs with
  | nil => cases h
  | cons g r ih =>
    simp only [used]
    rcases List.mem_cons.1 h with rfl | hm
    · omega
    · have := ih hm; omega
theorem used_ins (f : Fl) : ∀ fs : List Fl, used (ins f fs) = f.data.length + used fs
  | [] => rfl
  | g :: r => by
    unfold ins
    split
    · rfl
    · simp only [used, used_ins f r]; omega
theorem mem_ins {g : Fl} : ∀ {fs : List Fl}, g ∈ ins f fs ↔ g = f ∨ g ∈ fs
  | [] => by simp [ins]
  | h :: r => by
    unfold ins
    split
    · simp
    · simp only [List.mem_cons, mem_ins (fs := r)]
      constructor
      · rintro (h | h | h)
        · exact .inr (.inl h)
        · exact .inl h
        · exact .inr (.inr h)
      · rintro (h | h | h)
        · exact .inr (.inl h)
        · exact .inl h
        · exact .inr (.inr h)
theorem length_ins (f : Fl) : ∀ fs : List Fl, (ins f fs).length = fs.length + 1
  | [] => rfl
  | g :: r => by
    unfold ins
    split
    · rfl
    · simp [length_ins f r]
theorem rise_ins : ∀ {fs : List Fl}, fs.Pairwise (fun f g => bef f.name g.name = true) → (∀ g ∈ fs, g.name ≠ f.name) → (ins f fs).Pairwise fun f g => bef f.name g.name = true
  | [], _, _ => by simp [ins]
  | g :: r, h, hn => by
    obtain ⟨h1, h2⟩ := List.pairwise_cons.1 h
    unfold ins
    split
    · rename_i hb
      refine List.pairwise_cons.2 ⟨fun x hx => ?_, h⟩
      rcases List.mem_cons.1 hx with rfl | hx
      · exact hb
      · exact bef_trans hb (h1 x hx)
    · rename_i hb
      refine List.pairwise_cons.2 ⟨fun x hx => ?_, rise_ins h2 fun x hx => hn x (by simp [hx])⟩
      rcases mem_ins.1 hx with rfl | hx
      · rcases bef_total (hn g (by simp)) with h' | h'
        · exact h'
        · exact absurd h' hb
      · exact h1 x hx
theorem mem_del {g : Fl} : g ∈ del fs s ↔ g ∈ fs ∧ g.name ≠ s := by unfold del; simp
theorem used_del (h : fs.Pairwise fun f g => bef f.name g.name = true) (hf : get fs s = some f) : used (del fs s) + f.data.length = used fs := by
  induction fs with
  | nil => cases hf
  | cons g r ih =>
    obtain ⟨h1, h2⟩ := List.pairwise_cons.1 h
    unfold get at hf
    rw [List.find?_cons] at hf
    by_cases e : g.name = s
    · simp only [e, decide_true] at hf
      injection hf with hf
      subst hf
      have hr : del r s = r := by
        unfold del
        rw [List.filter_eq_self]
        intro x hx
        have : x.name ≠ s := by rw [← e]; exact (bef_ne (h1 x hx)).symm
        simp [this]
      have : del (g :: r) s = r := by
        unfold del at hr ⊢
        rw [List.filter_cons]
        simp [e, hr]
      rw [this]
      simp only [used]
      omega
    · simp only [e, decide_false] at hf
      have hd : del (g :: r) s = g :: del r s := by
        unfold del
        rw [List.filter_cons]
        simp [e]
      have := ih h2 hf
      rw [hd]
      simp only [used]
      omega
theorem upd_split {p q : List Fl} (hs : fs = p ++ f :: q) (h : fs.Pairwise fun f g => bef f.name g.name = true) (g : Fl → Fl) : upd fs f.name g = p ++ g f :: q := by
  subst hs
  have hn := rise_ne h
  rw [List.pairwise_append] at hn
  obtain ⟨_, h2, h3⟩ := hn
  obtain ⟨h4, _⟩ := List.pairwise_cons.1 h2
  unfold upd
  rw [List.map_append, List.map_cons, if_pos rfl]
  congr 1
  · conv => rhs; rw [← List.map_id p]
    exact List.map_congr_left fun x hx => if_neg (h3 x hx f (by simp))
  · congr 1
    conv => rhs; rw [← List.map_id q]
    exact List.map_congr_left fun x hx => if_neg (fun e => h4 x hx e.symm)
end
end Go.Proofs.YtgnilldcfpgpaaaGreatDoor
namespace Go.Proofs.YtgnilldcfpgpaaaGreatDoor
section
variable {α β : Type}
def findL (key : α → ByteArray) (l : List α) (s : ByteArray) : Option α := l.find? fun x => decide (key x = s)
def delL (key : α → ByteArray) (l : List α) (s : ByteArray) : List α := l.filter fun x => !decide (key x = s)
def insL (key : α → ByteArray) (x : α) : List α → List α
  | [] => [x]
  | g :: r => if bef (key x) (key g) then x :: g :: r else g :: insL key x r
def putL (key : α → ByteArray) (x : α) (l : List α) : List α := insL key x (delL key l (key x))
def Rise (key : α → ByteArray) (l : List α) : Prop := l.Pairwise fun x y => bef (key x) (key y) = true
variable {key : α → ByteArray} {l : List α} {s : ByteArray} {x y : α}
theorem findL_some (h : findL key l s = some x) : x ∈ l ∧ key x = s := ⟨List.mem_of_find?_eq_some h, by have := List.find?_some h; simpa using this⟩
theorem findL_none : findL key l s = none ↔ ∀ x ∈ l, key x ≠ s := by unfold findL; simp
theorem findL_map (f : α → β) (key' : β → ByteArray) (hf : ∀ x, key' (f x) = key x) (l : List α) (s : ByteArray) : findL key' (l.map f) s = (findL key l s).map f := by
  unfold findL
  rw [List.find?_map]
  congr 1
  have : ((fun x => decide (key' x = s)) ∘ f) = fun x => decide (key x = s) := by funext x; simp [hf]
  rw [this]
theorem delL_map (f : α → β) (key' : β → ByteArray) (hf : ∀ x, key' (f x) = key x) (l : List α) (s : ByteArray) : delL key' (l.map f) s = (delL key l s).map f := by
  unfold delL
  rw [List.filter_map]
  have : ((fun x => !decide (key' x = s)) ∘ f) = fun x => !decide (key x = s) := by funext x; simp [hf]
  rw [this]
theorem insL_map (f : α → β) (key' : β → ByteArray) (hf : ∀ x, key' (f x) = key x) (x : α) : ∀ l : List α, insL key' (f x) (l.map f) = (insL key x l).map f
  | [] => rfl
  | g :: r => by
    unfold insL
    simp only [List.map_cons, hf]
    split
    · rfl
    · rw [List.map_cons, insL_map f key' hf x r]
theorem putL_map (f : α → β) (key' : β → ByteArray) (hf : ∀ x, key' (f x) = key x) (x : α) (l : List α) : putL key' (f x) (l.map f) = (putL key x l).map f := by
  unfold putL
  rw [hf, delL_map f key' hf, insL_map f key' hf]
theorem mem_insL : ∀ {l : List α}, y ∈ insL key x l ↔ y = x ∨ y ∈ l
  | [] => by simp [insL]
  | h :: r => by
    unfold insL
    split
    · simp
    · simp only [List.mem_cons, mem_insL (l := r)]
      constructor
      · rintro (h | h | h)
        · exact .inr (.inl h)
        · exact .inl h
        · exact .inr (.inr h)
      · rintro (h | h | h)
        · exact .inr (.inl h)
        · exact .inl h
        · exact .inr (.inr h)
theorem mem_delL : y ∈ delL key l s ↔ y ∈ l ∧ key y ≠ s := by unfold delL; simp
theorem mem_putL : y ∈ putL key x l ↔ y = x ∨ (y ∈ l ∧ key y ≠ key x) := by unfold putL; rw [mem_insL, mem_delL]
theorem length_insL (x : α) : ∀ l : List α, (insL key x l).length = l.length + 1
  | [] => rfl
  | g :: r => by
    unfold insL
    split
    · rfl
    · rw [List.length_cons, length_insL x r, List.length_cons]
theorem length_delL : (delL key l s).length ≤ l.length := List.length_filter_le _ _
theorem length_putL : (putL key x l).length ≤ l.length + 1 := by
  unfold putL
  rw [length_insL]
  have := length_delL (key := key) (l := l) (s := key x)
  omega
theorem Rise.del (h : Rise key l) (s : ByteArray) : Rise key (delL key l s) := h.filter _
theorem Rise.ins : ∀ {l : List α}, Rise key l → (∀ g ∈ l, key g ≠ key x) → Rise key (insL key x l)
  | [], _, _ => by simp [insL, Rise]
  | g :: r, h, hn => by
    obtain ⟨h1, h2⟩ := List.pairwise_cons.1 h
    unfold insL
    split
    · rename_i hb
      refine List.pairwise_cons.2 ⟨fun z hz => ?_, h⟩
      rcases List.mem_cons.1 hz with rfl | hz
      · exact hb
      · exact bef_trans hb (h1 z hz)
    · rename_i hb
      have hgx : bef (key g) (key x) = true := by
        rcases bef_total (hn g (by simp)) with h' | h'
        · exact h'
        · exact absurd h' hb
      refine List.pairwise_cons.2 ⟨fun z hz => ?_, Rise.ins h2 fun z hz => hn z (by simp [hz])⟩
      rcases mem_insL.1 hz with rfl | hz
      · exact hgx
      · exact h1 z hz
theorem Rise.put (h : Rise key l) (x : α) : Rise key (putL key x l) := (h.del _).ins fun _ hg => (mem_delL.1 hg).2
theorem findL_ins_ne (h : key x ≠ s) : ∀ l : List α, findL key (insL key x l) s = findL key l s
  | [] => by simp [insL, findL, h]
  | g :: r => by
    unfold insL
    split
    · unfold findL; rw [List.find?_cons]; simp [h]
    · have := findL_ins_ne h r
      unfold findL at this ⊢
      rw [List.find?_cons, List.find?_cons, this]
theorem findL_del_ne {t : ByteArray} (h : t ≠ s) : findL key (delL key l t) s = findL key l s := by
  unfold findL delL
  rw [List.find?_filter]
  congr 1
  funext a
  by_cases e : key a = s
  · simp [e, h.symm]
  · simp [e]
theorem findL_put_ne (h : key x ≠ s) : findL key (putL key x l) s = findL key l s := by
  unfold putL
  rw [findL_ins_ne h, findL_del_ne h]
theorem findL_put (x : α) (l : List α) : findL key (putL key x l) (key x) = some x := by
  cases e : findL key (putL key x l) (key x) with
  | none => exact absurd rfl (findL_none.1 e x (mem_putL.2 (.inl rfl)))
  | some y =>
    obtain ⟨h1, h2⟩ := findL_some e
    rcases mem_putL.1 h1 with rfl | h
    · rfl
    · exact absurd h2 h.2
end
end Go.Proofs.YtgnilldcfpgpaaaGreatDoor
namespace Go.Proofs.YtgnilldcfpgpaaaGreatDoor
structure Us where
  name : List UInt8
  pass : List UInt8
  bs : List Bx
structure Stt where
  next : Int
  us : List Us
def bkey (b : Bx) : ByteArray := ⟨b.name.toArray⟩
def ukey (u : Us) : ByteArray := ⟨u.name.toArray⟩
def inboxL : List UInt8 := [105, 110, 98, 111, 120]
def tx (s : List UInt8) : ByteArray := ⟨s.toArray⟩
theorem tx_inj {a b : List UInt8} : tx a = tx b ↔ a = b := by
  constructor
  · intro h
    have := congrArg (fun x : ByteArray => x.data.toList) h
    simpa [tx] using this
  · rintro rfl; rfl
def Us.box (u : Us) (s : List UInt8) : Option Bx := findL bkey u.bs (tx s)
def Stt.user (S : Stt) (s : List UInt8) : Option Us := findL ukey S.us (tx s)
def Us.having (u : Us) (b : Bx) : Us := { u with bs := putL bkey b u.bs }
def Stt.having (S : Stt) (u : Us) : Stt := { S with us := putL ukey u S.us }
def refE (has : Bool) (others : Nat) (next : Int) : Int := if has then 8 else if 4 ≤ others then 6 else if 1048576 ≤ next then 10 else 0
def copyL (ids : List Int) : Bx → List Mg → Int × Bx × Nat
  | to, [] => (0, to, 0)
  | to, m :: r => if hasU ids m.uid then (if addE to m.flags m.date m.body.length = 0 then ((copyL ids (addB to m.flags m.date m.body) r).1, (copyL ids (addB to m.flags m.date m.body) r).2.1, (copyL ids (addB to m.flags m.date m.body) r).2.2 + 1) else (addE to m.flags m.date m.body.length, to, 0)) else copyL ids to r
def actE (u : Us) (b : Bx) (c : Ch) : Int :=
  if c.kind = 3 then (if b.name = inboxL then 11 else 0) else
  if c.kind = 4 then (if b.name = inboxL then 11 else if (u.box c.to).isSome then 8 else 0) else
  if c.kind = 5 then addE b c.flags c.date c.body.length else
  if c.kind = 8 then (match u.box c.to with | none => 7 | some to => (copyL c.uids to b.l).1) else 0
def actU (u : Us) (b : Bx) (c : Ch) : Us :=
  if c.kind = 3 then { u with bs := delL bkey u.bs (tx b.name) } else
  if c.kind = 4 then Us.having { u with bs := delL bkey u.bs (tx b.name) } { b with name := c.to } else
  if c.kind = 5 then u.having (addB b c.flags c.date c.body) else
  if c.kind = 6 then u.having (markB b c.uids c.mode c.flags) else
  if c.kind = 7 then u.having (expB b c.uids) else
  (match u.box c.to with | none => u | some to => u.having (copyL c.uids to b.l).2.1)
def actN (u : Us) (b : Bx) (c : Ch) : Int :=
  if c.kind = 5 then b.next else if c.kind = 6 then (markN c.uids c.mode c.flags b.l : Int) else if c.kind = 7 then ((goneL c.uids b.l).length : Int) else
  if c.kind = 8 then (match u.box c.to with | none => 0 | some to => ((copyL c.uids to b.l).2.2 : Int)) else 0
def Stt.withNew (S : Stt) (u : Us) (s : List UInt8) : Stt := { next := S.next + 1, us := putL ukey (u.having (newB s S.next)) S.us }
def doE (S : Stt) (c : Ch) : Int :=
  if c.kind = 1 then refE (S.user c.user).isSome S.us.length S.next else
  match S.user c.user with
  | none => 7
  | some u => if c.kind = 2 then refE (u.box c.box).isSome u.bs.length S.next else
    match u.box c.box with
    | none => 7
    | some b => actE u b c
def doS (S : Stt) (c : Ch) : Stt :=
  if c.kind = 1 then S.withNew ⟨c.user, c.pass, []⟩ inboxL else
  match S.user c.user with
  | none => S
  | some u => if c.kind = 2 then S.withNew u c.box else
    match u.box c.box with
    | none => S
    | some b => S.having (actU u b c)
def doN (S : Stt) (c : Ch) : Int :=
  if c.kind = 1 then 0 else
  match S.user c.user with
  | none => 0
  | some u => if c.kind = 2 then 0 else
    match u.box c.box with
    | none => 0
    | some b => actN u b c
structure GoodU (u : Us) : Prop where
  name : nameL u.name = true
  pass : passOk u.pass = true
  rise : Rise bkey u.bs
  boxes : ∀ b ∈ u.bs, isB b = true
  inb : (u.box inboxL).isSome = true
  few : u.bs.length ≤ 4
structure GoodS (S : Stt) : Prop where
  next : 1 ≤ S.next ∧ S.next ≤ 1048576
  rise : Rise ukey S.us
  users : ∀ u ∈ S.us, GoodU u
  few : S.us.length ≤ 4
end Go.Proofs.YtgnilldcfpgpaaaGreatDoor
namespace Go.Proofs.YtgnilldcfpgpaaaGreatDoor
open Go.RowKit Go.Instr
theorem bxv_eq {s : List UInt8} {v x : Int} {l : List Mg} {n : Nat} (h : l.length = n) (A : Option Addr) (c : Nat) : bxv ⟨s, v, x, l⟩ A c = .agg #[.string (St s), .int .i64 v, .int .i64 x, .slice A n c] := by
  subst h
  rfl
theorem bk_four {w : World} {g : Nat} {t : TypeId} {a0 a1 a2 a3 : Value} (h : Bk w g t #[a0, a1, a2, a3]) : w.cell? ⟨g, 0, none⟩ = some a0 ∧ w.cell? ⟨g, 1, none⟩ = some a1 ∧ w.cell? ⟨g, 2, none⟩ = some a2 ∧ w.cell? ⟨g, 3, none⟩ = some a3 :=
  ⟨by rw [h.cell]; rfl, by rw [h.cell]; rfl, by rw [h.cell]; rfl, by rw [h.cell]; rfl⟩
end Go.Proofs.YtgnilldcfpgpaaaGreatDoor
