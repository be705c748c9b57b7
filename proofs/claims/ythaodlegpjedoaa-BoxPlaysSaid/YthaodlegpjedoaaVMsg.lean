/-
  Slices of messages (four cells each): what a slice reads as, a slice of one's own, append, stores.
-/
import Derived.Test.YthaodlegpjedoaaVMath
import Derived.Test.YthaodlegpjedoaaRelOps
import Derived.Test.YthaodlegpjedoaaStr
import Derived.Test.YthaodlegpjedoaaRowsOf
namespace Go.Proofs.Ythaodlegpjedoaa
open Go.RowKit Go.Instr

/-- The cells' values xs are those of the messages l; the bodies lie in blocks of the kind S. -/
def MX (S : Nat → Prop) (w : World) (xs : List Value) (l : List Mg) : Prop :=
  ∀ (k : Nat) (m : Mg), l[k]? = some m → ∃ Ab cb, xs[k * 4]? = some (.int .i64 m.uid) ∧ xs[k * 4 + 1]? = some (.int .i64 m.flags) ∧ xs[k * 4 + 2]? = some (.int .i64 m.date) ∧ xs[k * 4 + 3]? = some (.slice Ab m.body.length cb) ∧
    Sl w Ab m.body.length (bvs m.body) ∧ (0 < m.body.length → ∀ ad, Ab = some ad → S ad.block)
/-- The slice reads as these messages. -/
def Ms (S : Nat → Prop) (w : World) (A : Option Addr) (n : Nat) (l : List Mg) : Prop :=
  l.length = n ∧ ∃ xs : List Value, xs.length = n * 4 ∧ (0 < n → ∃ ad, A = some ad ∧ S ad.block ∧ ∀ j u, xs[j]? = some u → w.cell? (ad.add j) = some u) ∧ MX S w xs l
/-- A message's cells, as the walk writes their addresses. -/
structure MgAt (S : Nat → Prop) (w : World) (p : Addr) (m : Mg) (Ab : Option Addr) (cb : Nat) : Prop where
  c0 : w.cell? p = some (.int .i64 m.uid)
  c1 : w.cell? ⟨p.block, p.off + 1, none⟩ = some (.int .i64 m.flags)
  c2 : w.cell? ⟨p.block, p.off + 2, none⟩ = some (.int .i64 m.date)
  c3 : w.cell? ⟨p.block, p.off + 3, none⟩ = some (.slice Ab m.body.length cb)
  sl : Sl w Ab m.body.length (bvs m.body)
  st : 0 < m.body.length → ∀ ad, Ab = some ad → S ad.block
section
variable {S S' : Nat → Prop} {w w' : World} {A : Option Addr} {n c : Nat} {l : List Mg} {rs : List Nat} {xs : List Value}
theorem MX.nil (S : Nat → Prop) (w : World) (xs : List Value) : MX S w xs [] := fun k m h => by simp at h
theorem MX.mono (h : MX S w xs l) (hs : ∀ x, S x → S' x) : MX S' w xs l := fun k m hm => by
  obtain ⟨Ab, cb, h0, h1, h2, h3, h4, h5⟩ := h k m hm
  exact ⟨Ab, cb, h0, h1, h2, h3, h4, fun hp ad e => hs _ (h5 hp ad e)⟩
theorem MX.only (h : MX S w xs l) (o : Only rs w w') (hd : ∀ x, S x → x ∉ rs) : MX S w' xs l := fun k m hm => by
  obtain ⟨Ab, cb, h0, h1, h2, h3, h4, h5⟩ := h k m hm
  exact ⟨Ab, cb, h0, h1, h2, h3, h4.only' o (fun hp ad e => hd _ (h5 hp ad e)), h5⟩
theorem MX.lt (h : MX S w xs l) : MX (fun x => S x ∧ x < w.heap.size) w xs l := fun k m hm => by
  obtain ⟨Ab, cb, h0, h1, h2, h3, h4, h5⟩ := h k m hm
  exact ⟨Ab, cb, h0, h1, h2, h3, h4, fun hp ad e => ⟨h5 hp ad e, h4.lt hp ad e⟩⟩
theorem MX.append {ys : List Value} {m : List Mg} (h : MX S w xs l) (h2 : MX S w ys m) (hx : xs.length = l.length * 4) : MX S w (xs ++ ys) (l ++ m) := fun k q hq => by
  rcases Nat.lt_or_ge k l.length with hk | hk
  · rw [List.getElem?_append_left hk] at hq
    obtain ⟨Ab, cb, e0, e1, e2, e3, r⟩ := h k q hq
    exact ⟨Ab, cb, by rw [List.getElem?_append_left (by omega)]; exact e0, by rw [List.getElem?_append_left (by omega)]; exact e1, by rw [List.getElem?_append_left (by omega)]; exact e2, by rw [List.getElem?_append_left (by omega)]; exact e3, r⟩
  · rw [List.getElem?_append_right hk] at hq
    obtain ⟨Ab, cb, e0, e1, e2, e3, r⟩ := h2 (k - l.length) q hq
    refine ⟨Ab, cb, ?_, ?_, ?_, ?_, r⟩
    · rw [List.getElem?_append_right (by omega), show k * 4 - xs.length = (k - l.length) * 4 by omega]; exact e0
    · rw [List.getElem?_append_right (by omega), show k * 4 + 1 - xs.length = (k - l.length) * 4 + 1 by omega]; exact e1
    · rw [List.getElem?_append_right (by omega), show k * 4 + 2 - xs.length = (k - l.length) * 4 + 2 by omega]; exact e2
    · rw [List.getElem?_append_right (by omega), show k * 4 + 3 - xs.length = (k - l.length) * 4 + 3 by omega]; exact e3
theorem Ms.nil (S : Nat → Prop) (w : World) (A : Option Addr) : Ms S w A 0 [] := ⟨rfl, [], rfl, fun h => absurd h (by omega), MX.nil _ _ _⟩
theorem Ms.len (h : Ms S w A n l) : l.length = n := h.1
theorem Ms.mono (h : Ms S w A n l) (hs : ∀ x, S x → S' x) : Ms S' w A n l := by
  obtain ⟨h1, xs, h2, h3, h4⟩ := h
  exact ⟨h1, xs, h2, fun hn => by obtain ⟨ad, e, h5, h6⟩ := h3 hn; exact ⟨ad, e, hs _ h5, h6⟩, h4.mono hs⟩
theorem Ms.only (h : Ms S w A n l) (o : Only rs w w') (hd : ∀ x, S x → x ∉ rs) : Ms S w' A n l := by
  obtain ⟨h1, xs, h2, h3, h4⟩ := h
  exact ⟨h1, xs, h2, fun hn => by
    obtain ⟨ad, e, h5, h6⟩ := h3 hn
    exact ⟨ad, e, h5, fun j u hu => o.cellSome (h6 j u hu) (by rw [add_block]; exact hd _ h5)⟩, h4.only o hd⟩
theorem Ms.keep (h : Ms S w A n l) (o : Only [] w w') : Ms S w' A n l := h.only o (fun _ _ hm => nomatch hm)
theorem Ms.lt (h : Ms S w A n l) : Ms (fun x => S x ∧ x < w.heap.size) w A n l := by
  obtain ⟨h1, xs, h2, h3, h4⟩ := h
  refine ⟨h1, xs, h2, fun hn => ?_, h4.lt⟩
  obtain ⟨ad, e, h5, h6⟩ := h3 hn
  have := block_lt_of_cell (h6 0 (xs[0]'(by omega)) (List.getElem?_eq_getElem _))
  rw [add_block] at this
  exact ⟨ad, e, ⟨h5, this⟩, h6⟩
theorem add_field (ad : Addr) (i k : Nat) : (⟨(ad.add i).block, (ad.add i).off + (k + 1), none⟩ : Addr) = ad.add (i + (k + 1)) := by
  rw [← add_add]
  rfl
theorem Ms.at_ (h : Ms S w A n l) {k : Nat} (hk : k < n) (hk' : k < l.length) : ∃ ad Ab cb, A = some ad ∧ S ad.block ∧ MgAt S w (ad.add (k * 4)) l[k] Ab cb := by
  obtain ⟨h1, xs, h2, h3, h4⟩ := h
  obtain ⟨ad, e, h5, h6⟩ := h3 (by omega)
  obtain ⟨Ab, cb, e0, e1, e2, e3, e4, e5⟩ := h4 k l[k] (List.getElem?_eq_getElem hk')
  exact ⟨ad, Ab, cb, e, h5, h6 _ _ e0, by rw [add_field]; exact h6 _ _ e1, by rw [add_field]; exact h6 _ _ e2, by rw [add_field]; exact h6 _ _ e3, e4, e5⟩
theorem MgAt.only {p : Addr} {m : Mg} {Ab : Option Addr} {cb : Nat} (h : MgAt S w p m Ab cb) (o : Only rs w w') (hp : p.block ∉ rs) (hd : ∀ x, S x → x ∉ rs) : MgAt S w' p m Ab cb :=
  ⟨o.cellSome h.c0 hp, o.cellSome h.c1 hp, o.cellSome h.c2 hp, o.cellSome h.c3 hp, h.sl.only' o (fun hn ad e => hd _ (h.st hn ad e)), h.st⟩
/-- One message in a block of its own. -/
theorem Ms.of_bk {g : Nat} {t : TypeId} {m : Mg} {Ab : Option Addr} {cb : Nat} (h : Bk w g t #[.int .i64 m.uid, .int .i64 m.flags, .int .i64 m.date, .slice Ab m.body.length cb]) (hg : S g) (hs : Sl w Ab m.body.length (bvs m.body)) (hS : 0 < m.body.length → ∀ ad, Ab = some ad → S ad.block) : Ms S w (some ⟨g, 0, none⟩) 1 [m] :=
  ⟨rfl, [.int .i64 m.uid, .int .i64 m.flags, .int .i64 m.date, .slice Ab m.body.length cb], rfl, fun _ => ⟨_, rfl, hg, fun j u hu => by rw [add_none, Nat.zero_add, h.cell]; simpa using hu⟩, fun k q hq => by
    match k, hq with
    | 0, hq =>
      simp at hq
      subst hq
      exact ⟨Ab, cb, rfl, rfl, rfl, rfl, hs, hS⟩⟩
/-- A part of it. -/
theorem MX.set {k : Nat} {m : Mg} (h : MX S w xs l) (hk : k < l.length) {ys : List Value} (hy : ∀ j, j / 4 ≠ k → ys[j]? = xs[j]?)
    (Ab : Option Addr) (cb : Nat) (e0 : ys[k * 4]? = some (.int .i64 m.uid)) (e1 : ys[k * 4 + 1]? = some (.int .i64 m.flags)) (e2 : ys[k * 4 + 2]? = some (.int .i64 m.date)) (e3 : ys[k * 4 + 3]? = some (.slice Ab m.body.length cb))
    (hs : Sl w Ab m.body.length (bvs m.body)) (hS : 0 < m.body.length → ∀ ad, Ab = some ad → S ad.block) : MX S w ys (l.set k m) := fun i q hq => by
  rcases Nat.decEq i k with hne | rfl
  · rw [List.getElem?_set_ne (by omega)] at hq
    obtain ⟨A1, c1, f0, f1, f2, f3, r⟩ := h i q hq
    exact ⟨A1, c1, by rw [hy _ (by omega)]; exact f0, by rw [hy _ (by omega)]; exact f1, by rw [hy _ (by omega)]; exact f2, by rw [hy _ (by omega)]; exact f3, r⟩
  · rw [List.getElem?_set_self hk] at hq
    injection hq with hq
    subst hq
    exact ⟨Ab, cb, e0, e1, e2, e3, hs, hS⟩

/-- A slice of messages of the call's own. -/
def Mo (S : Nat → Prop) (w : World) (A : Option Addr) (n c : Nat) (l : List Mg) : Prop :=
  l.length = n ∧ (∀ x ∈ blks A, S x) ∧ ∃ xs, w.ownsRow 0 62 4 (.slice A n c) n xs ∧ MX (fun x => S x ∧ x ∉ blks A) w xs l
theorem Mo.nil (S : Nat → Prop) (w : World) : Mo S w none 0 0 [] := ⟨rfl, (fun _ h => nomatch h), [], ⟨rfl, .inl ⟨rfl, rfl⟩⟩, MX.nil _ _ _⟩
theorem Mo.empty (w : World) (hS : S w.heap.size) : Mo S (w.alloc (.cells #[] 62)) (some ⟨w.heap.size, 0, none⟩) 0 0 [] :=
  ⟨rfl, fun x hx => by simp at hx; subst hx; exact hS, [], ⟨rfl, .inr ⟨w.heap.size, 0, #[], rfl, Nat.zero_le _, heap_alloc_new w _, Nat.le_refl _, Nat.zero_le _, rfl, rfl⟩⟩, MX.nil _ _ _⟩
theorem Mo.len (h : Mo S w A n c l) : l.length = n := h.1
theorem own4_only {xs : List Value} (h : w.ownsRow 0 62 4 (.slice A n c) n xs) (o : Only rs w w') (hd : ∀ x ∈ blks A, x ∉ rs) : w'.ownsRow 0 62 4 (.slice A n c) n xs :=
  own_only h o (fun k hk => hd k (by
    cases A with
    | none => cases hk
    | some a => simp [Value.ownBlock] at hk; simp [hk]))
theorem Mo.only (h : Mo S w A n c l) (o : Only rs w w') (hd : ∀ x, S x → x ∉ rs) : Mo S w' A n c l := by
  obtain ⟨h1, h2, xs, h3, h4⟩ := h
  exact ⟨h1, h2, xs, own4_only h3 o (fun x hx => hd x (h2 x hx)), h4.only o (fun x hx => hd x hx.1)⟩
theorem Mo.keep (h : Mo S w A n c l) (o : Only [] w w') : Mo S w' A n c l := h.only o (fun _ _ hm => nomatch hm)
theorem Mo.mono (h : Mo S w A n c l) (hs : ∀ x, S x → S' x) : Mo S' w A n c l := by
  obtain ⟨h1, h2, xs, h3, h4⟩ := h
  exact ⟨h1, fun x hx => hs x (h2 x hx), xs, h3, h4.mono (fun x hx => ⟨hs x hx.1, hx.2⟩)⟩
theorem Mo.bk (h : Mo S w A n c l) {k : Nat} (hk : k ∈ blks A) : ∃ cur, Bk w k 62 cur := by
  obtain ⟨h1, h2, xs, h3, h4⟩ := h
  refine own_bk h3 ?_
  cases A with
  | none => cases hk
  | some a => simp at hk; simp [Value.ownBlock, hk]
theorem Mo.lt (h : Mo S w A n c l) {k : Nat} (hk : k ∈ blks A) : k < w.heap.size := by
  obtain ⟨cur, hc⟩ := h.bk hk
  exact hc.lt
theorem Mo.form (h : Mo S w A n c l) (hn : 0 < n) : ∃ g, A = some ⟨g, 0, none⟩ := by
  obtain ⟨h1, h2, xs, h3, h4⟩ := h
  obtain ⟨g, cap, hv, _, _⟩ := h3.form hn
  exact ⟨g, by injection hv⟩
theorem Mo.ms (h : Mo S w A n c l) : Ms S w A n l := by
  obtain ⟨h1, h2, xs, h3, h4⟩ := h
  refine ⟨h1, xs, h3.1, fun hn => ?_, h4.mono (fun _ hx => hx.1)⟩
  obtain ⟨g, cap, hv, _, _⟩ := h3.form hn
  have hA : A = some ⟨g, 0, none⟩ := by injection hv
  subst hA
  exact ⟨_, rfl, h2 _ (by simp), h3.cells (g := g) rfl⟩
/-- What its bodies lie in is none of its own block. -/
theorem Mo.apart (h : Mo S w A n c l) {ad : Addr} (hA : A = some ad) {k : Nat} (hk : k < l.length) : ∃ Ab cb, MgAt (fun x => S x ∧ x ≠ ad.block) w (ad.add (k * 4)) l[k] Ab cb ∧ w.frozen? (ad.add (k * 4)) = false ∧ w.frozen? ⟨(ad.add (k * 4)).block, (ad.add (k * 4)).off + 1, none⟩ = false ∧ w.frozen? ⟨(ad.add (k * 4)).block, (ad.add (k * 4)).off + 3, none⟩ = false := by
  obtain ⟨h1, h2, xs, h3, h4⟩ := h
  obtain ⟨g, cap, hv, _, _⟩ := h3.form (by omega)
  have hA' : A = some ⟨g, 0, none⟩ := by injection hv
  subst hA'
  injection hA with hA
  subst hA
  have h6 := h3.cells (g := g) rfl
  obtain ⟨Ab, cb, e0, e1, e2, e3, e4, e5⟩ := h4 k l[k] (List.getElem?_eq_getElem hk)
  refine ⟨Ab, cb, ⟨h6 _ _ e0, by rw [add_field]; exact h6 _ _ e1, by rw [add_field]; exact h6 _ _ e2, by rw [add_field]; exact h6 _ _ e3, e4, fun hp ad e => ⟨(e5 hp ad e).1, fun hh => (e5 hp ad e).2 (by simp [hh])⟩⟩, ?_, ?_, ?_⟩
  · rw [add_none]; exact World.ownsRow.frozenAt h3 _
  · rw [add_field, add_none]; exact World.ownsRow.frozenAt h3 _
  · rw [add_field, add_none]; exact World.ownsRow.frozenAt h3 _
/-- A message's flags stored anew. -/
theorem Mo.setFlags (h : Mo S w A n c l) {ad : Addr} (hA : A = some ad) {k : Nat} (hk : k < l.length) (f : Int) :
    Mo S (w.setCell ⟨(ad.add (k * 4)).block, (ad.add (k * 4)).off + 1, none⟩ (.int .i64 f)) A n c (l.set k { l[k] with flags := f }) := by
  obtain ⟨h1, h2, xs, h3, h4⟩ := h
  obtain ⟨g, cap, hv, _, _⟩ := h3.form (by omega)
  have hA' : A = some ⟨g, 0, none⟩ := by injection hv
  subst hA'
  injection hA with hA
  subst hA
  rw [add_field, add_none, Nat.zero_add]
  have hx : xs.length = n * 4 := h3.1
  have hst := (World.ownsRow.stored h3 (k * 4 + 1) (.int .i64 f)).1
  have ho : Only [g] w (w.setCell ⟨g, k * 4 + 1, none⟩ (.int .i64 f)) := (Only.refl _ _).setCell (.inl (by simp)) _
  have h5 := h4.only ho (fun x hx hm => hx.2 (by simpa using hm))
  obtain ⟨Ab, cb, e0, e1, e2, e3, e4, e5⟩ := h5 k l[k] (List.getElem?_eq_getElem hk)
  refine ⟨by rw [List.length_set]; exact h1, h2, _, hst, ?_⟩
  refine h5.set hk (fun j hj => List.getElem?_set_ne (by omega)) Ab cb ?_ ?_ ?_ ?_ e4 e5
  · rw [List.getElem?_set_ne (by omega)]; exact e0
  · rw [List.getElem?_set_self (by omega)]
  · rw [List.getElem?_set_ne (by omega)]; exact e2
  · rw [List.getElem?_set_ne (by omega)]; exact e3
/-- A message's body stored anew, of the same bytes. -/
theorem Mo.setBody (h : Mo S w A n c l) {ad : Addr} (hA : A = some ad) {k : Nat} (hk : k < l.length) (Ab : Option Addr) (cb : Nat) (hs : Sl w Ab l[k].body.length (bvs l[k].body)) (hb : 0 < l[k].body.length → ∀ a, Ab = some a → S a.block ∧ a.block ≠ ad.block) :
    Mo S (w.setCell ⟨(ad.add (k * 4)).block, (ad.add (k * 4)).off + 3, none⟩ (.slice Ab l[k].body.length cb)) A n c l := by
  obtain ⟨h1, h2, xs, h3, h4⟩ := h
  obtain ⟨g, cap, hv, _, _⟩ := h3.form (by omega)
  have hA' : A = some ⟨g, 0, none⟩ := by injection hv
  subst hA'
  injection hA with hA
  subst hA
  rw [add_field, add_none, Nat.zero_add]
  have hx : xs.length = n * 4 := h3.1
  have hst := (World.ownsRow.stored h3 (k * 4 + 3) (.slice Ab l[k].body.length cb)).1
  have ho : Only [g] w (w.setCell ⟨g, k * 4 + 3, none⟩ (.slice Ab l[k].body.length cb)) := (Only.refl _ _).setCell (.inl (by simp)) _
  have h5 := h4.only ho (fun x hx hm => hx.2 (by simpa using hm))
  obtain ⟨A0, c0, e0, e1, e2, e3, e4, e5⟩ := h5 k l[k] (List.getElem?_eq_getElem hk)
  refine ⟨h1, h2, _, hst, ?_⟩
  have := h5.set (m := l[k]) hk (ys := xs.set (k * 4 + 3) (.slice Ab l[k].body.length cb)) (fun j hj => List.getElem?_set_ne (by omega)) Ab cb ?_ ?_ ?_ ?_ (hs.only' ho (fun hp a e hm => (hb hp a e).2 (by simpa using hm))) (fun hp a e => ⟨(hb hp a e).1, fun hm => (hb hp a e).2 (by simpa using hm)⟩)
  · rwa [List.set_getElem_self] at this
  · rw [List.getElem?_set_ne (by omega)]; exact e0
  · rw [List.getElem?_set_ne (by omega)]; exact e1
  · rw [List.getElem?_set_ne (by omega)]; exact e2
  · rw [List.getElem?_set_self (by omega)]
end

theorem infoMg : (Try.prog.info? 62).map (fun i => (i.zero, i.size, i.bytes)) = some (some (.agg #[.int .i64 0, .int .i64 0, .int .i64 0, .slice none 0 0]), 4, 48) := by kernel_rfl
set_option maxRecDepth 100000 in
/-- Messages are appended. -/
theorem run_append_ms {S : Nat → Prop} {w : World} (ty : TypeId) (A : Option Addr) (n c : Nat) (l : List Mg) (h : Mo S w A n c l) (A2 : Option Addr) (m c2 : Nat) (r : List Mg) (h2 : Ms (fun x => S x ∧ x ∉ blks A) w A2 m r) (hS : ∀ x, w.heap.size ≤ x → S x) (hn : n + m ≤ 1000000000000) :
    ∃ A' c' w', (Builtin.append_ #[24, 24] ty #[.slice A n c, .slice A2 m c2]).run Try.prog w = .ok (.slice A' (n + m) c') w' ∧ Mo S w' A' (n + m) c' (l ++ r) ∧ Only (blks A) w w' ∧ ∀ k ∈ blks A', k ∈ blks A ∨ w.heap.size ≤ k := by
  obtain ⟨i0, hi, hz0, hz1, hz2⟩ := info_parts infoMg
  by_cases hm : m = 0 ∧ A2 = none
  · obtain ⟨rfl, rfl⟩ := hm
    obtain rfl : r = [] := List.eq_nil_of_length_eq_zero h2.len
    obtain ⟨h1, h0, xs, h3, h4⟩ := h
    refine ⟨A, c, w, run_append_none' 0 24 ty 62 i0 4 Try.underlying24 hi _ n xs h3 c2, ?_, Only.refl _ _, fun k hk => .inl hk⟩
    rw [List.append_nil]
    exact ⟨h1, h0, xs, h3, h4⟩
  · have h2' := h2.lt
    obtain ⟨ad, rfl⟩ : ∃ ad, A2 = some ad := by
      cases A2 with
      | some ad => exact ⟨ad, rfl⟩
      | none =>
        obtain ⟨_, xs, _, h5, _⟩ := h2
        obtain ⟨ad, e, _⟩ := h5 (by
          rcases Nat.eq_zero_or_pos m with h0 | h0
          · exact absurd ⟨h0, rfl⟩ hm
          · exact h0)
        exact ⟨ad, e⟩
    obtain ⟨h1, h0, xs, h3, h4⟩ := h
    obtain ⟨k1, ys, k2, k3, k4⟩ := h2'
    have hxl : xs.length = n * 4 := h3.1
    have hcells : ∀ j u, ys[j]? = some u → w.cell? (ad.add j) = some u := fun j u hu => by
      have hj := (List.getElem?_eq_some_iff.1 hu).1
      obtain ⟨ad', e, _, h6⟩ := k3 (by omega)
      injection e with e
      subst e
      exact h6 j u hu
    have hone : ∀ u ∈ ys, u.oneCell' = true := fun u hu => by
      obtain ⟨j, hj, rfl⟩ := List.mem_iff_getElem.1 hu
      have hk : j / 4 < r.length := by omega
      obtain ⟨Ab, cb, e0, e1, e2, e3, _⟩ := k4 (j / 4) r[j / 4] (List.getElem?_eq_getElem hk)
      have hq := List.getElem?_eq_getElem hj
      rcases (by omega : j = j / 4 * 4 ∨ j = j / 4 * 4 + 1 ∨ j = j / 4 * 4 + 2 ∨ j = j / 4 * 4 + 3) with e | e | e | e
      · rw [← e, hq] at e0; injection e0 with e0; rw [e0]; rfl
      · rw [← e, hq] at e1; injection e1 with e1; rw [e1]; rfl
      · rw [← e, hq] at e2; injection e2 with e2; rw [e2]; rfl
      · rw [← e, hq] at e3; injection e3 with e3; rw [e3]; rfl
    obtain ⟨v', w', hrun, r1, r2, _, r4⟩ := run_append_own_at (P := Try.prog) w 0 24 ty 62 i0 (.agg #[.int .i64 0, .int .i64 0, .int .i64 0, .slice none 0 0]) 4 48 Try.underlying24 hi hz0 hz1 hz2 rfl (by omega) _ n xs h3 ad m c2 ys (by omega) hcells hone (by unfold maxLen; omega) (by omega) (Nat.zero_le _)
    have hform : ∃ A' c', v' = .slice A' (n + m) c' := by
      rcases r1.2 with ⟨rfl, h0⟩ | ⟨g, cap, cur, rfl, _⟩
      · exact ⟨none, 0, by rw [h0]⟩
      · exact ⟨_, _, rfl⟩
    obtain ⟨A', c', rfl⟩ := hform
    have hO : Only (blks A) w w' := by
      have := Only.of_grown r2
      cases A with
      | none => simpa [Value.ownBlock] using this
      | some a => simpa [Value.ownBlock] using this
    have hA' : ∀ k ∈ blks A', k ∈ blks A ∨ w.heap.size ≤ k := fun k hk => by
      cases A' with
      | none => cases hk
      | some a' =>
        simp only [blks_some, List.mem_singleton] at hk
        subst hk
        rcases r4 with r4 | r4
        · left
          cases A with
          | none => simp [Value.ownBlock] at r4
          | some a => simp [Value.ownBlock] at r4; simp [r4]
        · right
          simp [Value.ownBlock] at r4
          omega
    have far : ∀ x, (S x ∧ x ∉ blks A) ∧ x < w.heap.size → S x ∧ x ∉ blks A' := fun x hx => ⟨hx.1.1, fun hm => by
      rcases hA' x hm with h5 | h5
      · exact hx.1.2 h5
      · have := hx.2; omega⟩
    refine ⟨A', c', w', hrun, ⟨by rw [List.length_append]; omega, fun x hx => ?_, xs ++ ys, r1, ?_⟩, hO, hA'⟩
    · rcases hA' x hx with h5 | h5
      · exact h0 x h5
      · exact hS x h5
    · exact ((h4.lt.only hO (fun x hx => hx.1.2)).mono far).append ((k4.only hO (fun x hx => hx.1.2)).mono far) (by omega)
theorem wpList_append_ms {ops : Array Oper} {rest : List Oper} {o : Oper} {a : Act} {w : World} {Q : Exit → Act → World → Prop} (hgd : o.guard = none) (s x : Operand)
    (ho : o.op = .call { callee := .builtin .append, args := #[s, x], argTypes := #[24, 24] }) {S : Nat → Prop} (A : Option Addr) (n c : Nat) (l : List Mg) (hs : a.eval s = .slice A n c) (h : Mo S w A n c l)
    (A2 : Option Addr) (m c2 : Nat) (r : List Mg) (hx : a.eval x = .slice A2 m c2) (h2 : Ms (fun x => S x ∧ x ∉ blks A) w A2 m r) (hS : ∀ x, w.heap.size ≤ x → S x) (hn : n + m ≤ 1000000000000) (q : Nat) (hq : n + m = q)
    (hK : ∀ A' c' w', Mo S w' A' q c' (l ++ r) → Only (blks A) w w' → (∀ k ∈ blks A', k ∈ blks A ∨ w.heap.size ≤ k) → wpList Try.prog ops Q rest (a.put o.dst (.slice A' q c')) w') : wpList Try.prog ops Q (o :: rest) a w := by
  subst hq
  refine wpList_plain hgd fun K hK2 => ?_
  obtain ⟨A', c', w', hrun, k1, k2, k3⟩ := run_append_ms o.type A n c l h A2 m c2 r h2 hS hn
  unfold Oper.wp execOp
  simp only [ho, resolve, invoke, builtin, Sem.run_bind, Sem.run_pure, Result.andThen_ok, List.map_toArray, List.map_cons, List.map_nil, hs, hx, hrun]
  exact hK2 _ _ (hK A' c' w' k1 k2 k3)
theorem gives_append_ms {T : World → World → Prop} {φ : Value → World → Prop} {o : Oper} {a : Act} {w : World} (s x : Operand)
    (ho : o.op = .call { callee := .builtin .append, args := #[s, x], argTypes := #[24, 24] }) {S : Nat → Prop} (A : Option Addr) (n c : Nat) (l : List Mg) (hs : a.eval s = .slice A n c) (h : Mo S w A n c l)
    (A2 : Option Addr) (m c2 : Nat) (r : List Mg) (hx : a.eval x = .slice A2 m c2) (h2 : Ms (fun x => S x ∧ x ∉ blks A) w A2 m r) (hS : ∀ x, w.heap.size ≤ x → S x) (hn : n + m ≤ 1000000000000) (q : Nat) (hq : n + m = q)
    (hK : ∀ A' c' w', Mo S w' A' q c' (l ++ r) → Only (blks A) w w' → (∀ k ∈ blks A', k ∈ blks A ∨ w.heap.size ≤ k) → φ (.slice A' q c') w' ∧ T w w') : GivesR Try.prog T w φ ((execOp a.eval o).run Try.prog w) := by
  subst hq
  obtain ⟨A', c', w', hrun, k1, k2, k3⟩ := run_append_ms o.type A n c l h A2 m c2 r h2 hS hn
  have e : (execOp a.eval o).run Try.prog w = .ok (.value (.slice A' (n + m) c')) w' := by
    unfold execOp
    simp only [ho, resolve, invoke, builtin, Sem.run_bind, Sem.run_pure, Result.andThen_ok, List.map_toArray, List.map_cons, List.map_nil, hs, hx, hrun]
  rw [e]
  exact hK A' c' w' k1 k2 k3

/-! ### Mailboxes -/
/-- A mailbox as a value. -/
def bxv (b : Bx) (A : Option Addr) (c : Nat) : Value := .agg #[.string (St b.name), .int .i64 b.val, .int .i64 b.next, .slice A b.l.length c]
def bxc (b : Bx) (A : Option Addr) (c : Nat) : Array Value := #[.string (St b.name), .int .i64 b.val, .int .i64 b.next, .slice A b.l.length c]
/-- Its messages lie there. -/
def Bx.In (b : Bx) (S : Nat → Prop) (w : World) (A : Option Addr) : Prop := Ms S w A b.l.length b.l
end Go.Proofs.Ythaodlegpjedoaa
