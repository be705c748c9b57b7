/-
  Words of head's walks: middles of slices, rows of bytes of the call's own, append inside a round.
-/
import Derived.Test.YtakehogenioobaaDoorHLeaf
import Derived.Test.YtakehogenioobaaDoorHRange
import Derived.Test.YtakehogenioobaaDoorHRound
namespace Go.Proofs.YtakehogenioobaaDoor
open Go.RowKit Go.Instr

section
variable {w w' : World} {A : Option Addr} {n c : Nat} {l : List UInt8}
theorem Bt.mid {ad : Addr} (h : Bt w (some ad) n c l) {i j : Nat} (hij : i ≤ j) (hj : j ≤ n) (hc : i < c) : Bt w (some (ad.add i)) (j - i) (c - i) ((l.drop i).take (j - i)) := by
  have := (h.cut (k := i) (by omega)).pre (k := j - i) (by omega)
  rw [if_neg (by omega)] at this
  exact this

/-- What is said of a row. -/
abbrev Row := World → Option Addr → Nat → List UInt8 → Prop
def Steady (R : Row) : Prop := ∀ (w w' : World) (rs : List Nat) (A : Option Addr) (c : Nat) (l : List UInt8), R w A c l → Only rs w w' → (∀ x ∈ blks A, x ∉ rs) → R w' A c l
def rBt : Row := fun w A c l => Bt w A l.length c l
def rOwn : Row := fun w A c l => Own w 5 A l.length c (bvs l)
theorem rBt_steady : Steady rBt := fun _ _ _ _ _ _ h o hd => Bt.only h o hd
theorem rOwn_steady : Steady rOwn := fun _ _ _ _ _ _ h o hd => Own.only h o hd
/-- Rows of bytes: the outer slice the call's own, from block `base` on; each row's blocks of the kind S, none of them the outer one's. -/
def Rz (R : Row) (S : Nat → Prop) (base : Nat) (w : World) (A : Option Addr) (n c : Nat) (ls : List (List UInt8)) : Prop :=
  ∃ vs, Own w 24 A n c vs ∧ ls.length = n ∧ (∀ x ∈ blks A, base ≤ x) ∧ ∀ (i : Nat) (l : List UInt8), ls[i]? = some l → ∃ Ai ci, vs[i]? = some (.slice Ai l.length ci) ∧ R w Ai ci l ∧ ∀ x ∈ blks Ai, S x ∧ x < w.heap.size ∧ x ∉ blks A
variable {R : Row} {S S2 : Nat → Prop} {base : Nat} {ls : List (List UInt8)}
theorem Rz.nil (R : Row) (S : Nat → Prop) (base : Nat) (w : World) : Rz R S base w none 0 0 [] := ⟨[], Own.nil _ _, rfl, (fun _ hx => nomatch hx), fun i l h => by simp at h⟩
theorem Rz.len (h : Rz R S base w A n c ls) : ls.length = n := h.choose_spec.2.1
theorem Rz.only (hR : Steady R) {rs : List Nat} (h : Rz R S base w A n c ls) (o : Only rs w w') (hA : ∀ x, base ≤ x → x ∉ rs) (hS : ∀ x, S x → x ∉ rs) : Rz R S base w' A n c ls := by
  obtain ⟨vs, h1, h2, h4, h3⟩ := h
  refine ⟨vs, h1.only o (fun x hx => hA x (h4 x hx)), h2, h4, fun i l hi => ?_⟩
  obtain ⟨Ai, ci, e1, e2, e3⟩ := h3 i l hi
  exact ⟨Ai, ci, e1, hR _ _ _ _ _ _ e2 o (fun x hx => hS x (e3 x hx).1), fun x hx => ⟨(e3 x hx).1, Nat.lt_of_lt_of_le (e3 x hx).2.1 o.size, (e3 x hx).2.2⟩⟩
theorem Rz.only' (hR : Steady R) {rs : List Nat} (h : Rz R S base w A n c ls) (o : Only rs w w') (hA : ∀ x ∈ blks A, x ∉ rs) (hS : ∀ x, S x → x ∉ rs) : Rz R S base w' A n c ls := by
  obtain ⟨vs, h1, h2, h4, h3⟩ := h
  refine ⟨vs, h1.only o hA, h2, h4, fun i l hi => ?_⟩
  obtain ⟨Ai, ci, e1, e2, e3⟩ := h3 i l hi
  exact ⟨Ai, ci, e1, hR _ _ _ _ _ _ e2 o (fun x hx => hS x (e3 x hx).1), fun x hx => ⟨(e3 x hx).1, Nat.lt_of_lt_of_le (e3 x hx).2.1 o.size, (e3 x hx).2.2⟩⟩
theorem own_apart {t t' : TypeId} {A2 : Option Addr} {n2 c2 : Nat} {xs xs2 : List Value} (h : Own w t A n c xs) (h2 : Own w t' A2 n2 c2 xs2) (hne : t ≠ t') : ∀ x ∈ blks A, x ∉ blks A2 := fun x hx hm => by
  obtain ⟨c1, h3⟩ := h.bk hx
  obtain ⟨c2, h4⟩ := h2.bk hm
  exact h3.ne h4 hne rfl
theorem Rz.keep (hR : Steady R) (h : Rz R S base w A n c ls) (o : Only [] w w') : Rz R S base w' A n c ls := h.only hR o (fun _ _ hm => nomatch hm) (fun _ _ hm => nomatch hm)
theorem Rz.mono {base2 : Nat} (h : Rz R S base w A n c ls) (hb : base2 ≤ base) (hS : ∀ x, S x → S2 x) : Rz R S2 base2 w A n c ls := by
  obtain ⟨vs, h1, h2, h4, h3⟩ := h
  refine ⟨vs, h1, h2, fun x hx => Nat.le_trans hb (h4 x hx), fun i l hi => ?_⟩
  obtain ⟨Ai, ci, e1, e2, e3⟩ := h3 i l hi
  exact ⟨Ai, ci, e1, e2, fun x hx => ⟨hS x (e3 x hx).1, (e3 x hx).2⟩⟩
theorem Rz.at_ (h : Rz R S base w A n c ls) {k : Nat} (hk : k < n) (hk' : k < ls.length) : ∃ g Ai ci, A = some ⟨g, 0, none⟩ ∧ w.cell? ⟨g, k, none⟩ = some (.slice Ai ls[k].length ci) ∧ R w Ai ci ls[k] ∧ ∀ x ∈ blks Ai, S x ∧ x < w.heap.size ∧ x ≠ g := by
  obtain ⟨vs, h1, h2, h4, h3⟩ := h
  obtain ⟨ad, u, rfl, hu, hc⟩ := h1.sl.at_ hk
  obtain ⟨g, rfl⟩ := h1.addr rfl
  obtain ⟨Ai, ci, e1, e2, e3⟩ := h3 k ls[k] (List.getElem?_eq_getElem hk')
  rw [hu] at e1
  injection e1 with e1
  subst e1
  exact ⟨g, Ai, ci, rfl, by rwa [add_none, Nat.zero_add] at hc, e2, fun x hx => ⟨(e3 x hx).1, (e3 x hx).2.1, fun h => (e3 x hx).2.2 (by simp [h])⟩⟩
/-- One more row. -/
theorem rz_push (hR : Steady R) {A' : Option Addr} {c' : Nat} {vs : List Value} {Ai : Option Addr} {ci : Nat} {l : List UInt8} (hb : base ≤ w.heap.size)
    (hown : Own w 24 A n c vs) (hl : ls.length = n) (hA : ∀ x ∈ blks A, base ≤ x) (hr : ∀ (i : Nat) (l : List UInt8), ls[i]? = some l → ∃ Ai ci, vs[i]? = some (.slice Ai l.length ci) ∧ R w Ai ci l ∧ ∀ x ∈ blks Ai, S x ∧ x < w.heap.size ∧ x ∉ blks A)
    (h : Own w' 24 A' (n + 1) c' (vs ++ [.slice Ai l.length ci])) (o : Only (blks A) w w') (hA' : ∀ k ∈ blks A', k ∈ blks A ∨ w.heap.size ≤ k) (hi : R w Ai ci l) (hi2 : ∀ x ∈ blks Ai, S x ∧ x < w.heap.size ∧ x ∉ blks A) : Rz R S base w' A' (n + 1) c' (ls ++ [l]) := by
  have hvl := hown.len
  have far : ∀ x, x < w.heap.size → x ∉ blks A → x ∉ blks A' := fun x h1 h2 h3 => by
    rcases hA' x h3 with h4 | h4
    · exact h2 h4
    · omega
  refine ⟨_, h, by simp [hl], fun x hx => ?_, fun i m hm => ?_⟩
  · rcases hA' x hx with h4 | h4
    · exact hA x h4
    · omega
  · rcases Nat.lt_or_ge i n with hlt | hge
    · rw [List.getElem?_append_left (by omega)] at hm
      obtain ⟨A2, c2, e1, e2, e3⟩ := hr i m hm
      exact ⟨A2, c2, by rw [List.getElem?_append_left (by omega)]; exact e1, hR _ _ _ _ _ _ e2 o (fun x hx => (e3 x hx).2.2), fun x hx => ⟨(e3 x hx).1, Nat.lt_of_lt_of_le (e3 x hx).2.1 o.size, far x (e3 x hx).2.1 (e3 x hx).2.2⟩⟩
    · rw [List.getElem?_append_right (by omega)] at hm
      have hi0 : i - ls.length = 0 := by
        have := (List.getElem?_eq_some_iff.1 hm).1
        simp at this
        omega
      rw [hi0] at hm
      simp at hm
      subst hm
      exact ⟨Ai, ci, by rw [List.getElem?_append_right (by omega), show i - vs.length = 0 by omega]; rfl, hR _ _ _ _ _ _ hi o (fun x hx => (hi2 x hx).2.2), fun x hx => ⟨(hi2 x hx).1, Nat.lt_of_lt_of_le (hi2 x hx).2.1 o.size, far x (hi2 x hx).2.1 (hi2 x hx).2.2⟩⟩
end

/-! ### Of the blocks below B those of rs alone -/
section
variable {B : Nat} {rs : List Nat} {a b c : World}
theorem OnlyB.refl (B : Nat) (rs : List Nat) (w : World) : OnlyB B rs w w := ⟨rfl, rfl, rfl, Nat.le_refl _, fun _ _ _ _ => rfl⟩
theorem OnlyB.only_ (h : OnlyB B rs a b) {ss : List Nat} (o : Only ss b c) (hs : ∀ x ∈ ss, x ∈ rs ∨ B ≤ x) : OnlyB B rs a c := onlyB_trans _ _ _ h (OnlyB.of o hs)
theorem OnlyB.set (h : OnlyB B rs a b) {p : Addr} (hp : p.block ∈ rs) (v : Value) : OnlyB B rs a (b.setCell p v) := h.only_ ((Only.refl [p.block] b).setCell (.inl (by simp)) v) (fun x hx => .inl (by rw [List.mem_singleton.1 hx]; exact hp))
theorem OnlyB.keeps {S : List Nat} (h : OnlyB B rs a b) (hS : ∀ k ∈ S, k < B ∧ k < a.heap.size ∧ k ∉ rs) : Keeps S a b := ⟨h.size, fun k hk => h.block k (hS k hk).1 (hS k hk).2.1 (hS k hk).2.2⟩
theorem Only.thenB (h : Only [] a b) (o : OnlyB B rs b c) (hB : a.heap.size ≤ B) (hr : ∀ x ∈ rs, a.heap.size ≤ x) : Only [] a c :=
  ⟨o.os.trans h.os, o.tape.trans h.tape, o.output.trans h.output, Nat.le_trans h.size o.size, fun k hk hn => (o.block k (by omega) (Nat.lt_of_lt_of_le hk h.size) (fun hm => by have := hr k hm; omega)).trans (h.block k hk hn)⟩
theorem Bt.onlyB {A : Option Addr} {n c' : Nat} {l : List UInt8} (h : Bt a A n c' l) (o : OnlyB B rs a b) (hd : ∀ x ∈ blks A, x < B ∧ x < a.heap.size ∧ x ∉ rs) : Bt b A n c' l :=
  ⟨h.sl.keeps (o.keeps (S := blks A) hd) (fun _ _ hx => hx), h.cap, h.max, h.nil⟩
end
theorem bvs_eq {a b : List UInt8} (h : bvs a = bvs b) : a = b := by
  have := congrArg (List.map (fun v : Value => match v with | .int _ n => UInt8.ofNat n.toNat | _ => 0)) h
  simpa [bvs, bv, Function.comp_def] using this

section
variable {P : Program} {w : World} {F : Fence} {n₀ : Nat}
theorem wpListIn_append_sl {ops : Array Oper} {rest : List Oper} {o : Oper} {a : Act} {Q : Exit → Act → World → Prop} (hgd : o.guard = none) (s x : Operand) (t : TypeId)
    (ho : o.op = .call { callee := .builtin .append, args := #[s, x], argTypes := #[t, t] }) (e : TypeId) (i : TypeInfo) (z : Value) (bytes : Nat) (ht : P.underlying t = some (.slice e)) (hi : P.info? e = some i)
    (hz : i.zero = some z) (hsize : i.size = 1) (hby : i.bytes = bytes) (hzs : z.cells.size = 1) (A : Option Addr) (n c : Nat) (xs : List Value) (hs : a.eval s = .slice A n c) (hown : Own w e A n c xs)
    (A2 : Option Addr) (m c2 : Nat) (news : List Value) (hx : a.eval x = .slice A2 m c2) (hr : Sl w A2 m news) (h1 : ∀ u ∈ news, u.oneCell' = true) (h63 : n + m ≤ maxLen) (hbytes : (n + m) * bytes ≤ 140737488355328)
    (h : ∀ A' c' w', Own w' e A' (n + m) c' (xs ++ news) → Only (blks A) w w' → (∀ k ∈ blks A', k ∈ blks A ∨ w.heap.size ≤ k) → wpListIn F n₀ P ops Q rest (a.put o.dst (.slice A' (n + m) c')) w') : wpListIn F n₀ P ops Q (o :: rest) a w := by
  refine wpListIn_plain hgd fun K hK => ?_
  obtain ⟨A', c', w', hrun, h2, h3, h4⟩ := run_append_sl (P := P) t o.type e i z bytes ht hi hz hsize hby hzs A n c xs hown A2 m c2 news hr h1 h63 hbytes
  unfold Oper.wpIn
  refine ⟨?_, ?_⟩
  · simp [Oper.about, ho, resolve, Target.leads, Sem.run_pure]
  · rw [Oper.semAt_plain F _ _ (by rw [ho]; intro c hc'; cases hc')]
    simp [execOp, ho, resolve, invoke, builtin, hs, hx, hrun, Result.andThen]
    exact hK _ _ (h A' c' w' h2 h3 h4)
/-- Where a slice's block may lie from. -/
def from_ (w : World) : Option Addr → Nat
  | none => w.heap.size
  | some a => a.block
theorem run_append_str2 (t u ty e : TypeId) (i : TypeInfo) (ht : P.underlying t = some (.slice e)) (hu : P.underlying u = some .string) (hi : P.info? e = some i) (hz : i.zero = some (.int .u8 0)) (hsize : i.size = 1) (hby : i.bytes = 1)
    (A : Option Addr) (n c : Nat) (xs : List Value) (hown : Own w e A n c xs) (s : ByteArray) (h63 : n + s.size ≤ 140737488355328) :
    ∃ A' c' w', (Builtin.append_ #[t, u] ty #[.slice A n c, .string s]).run P w = .ok (.slice A' (n + s.size) c') w' ∧ Own w' e A' (n + s.size) c' (xs ++ bvs s.data.toList) ∧ Only (blks A) w w' ∧
      ∀ base, base ≤ w.heap.size → (∀ k ∈ blks A, base ≤ k) → ∀ k ∈ blks A', base ≤ k := by
  have hlt : from_ w A ≤ w.heap.size := by
    cases A with
    | none => exact Nat.le_refl _
    | some ad => exact Nat.le_of_lt (hown.lt (k := ad.block) (by simp))
  obtain ⟨v', w', hr, h2, h3, _⟩ := Lib.run_append_own_string (P := P) w (from_ w A) t u ty e i ht hu hi hz hsize hby (.slice A n c) n xs (own_base hown (fun k hk => by
    cases A with
    | none => cases hk
    | some ad => simp [Value.ownBlock] at hk; subst hk; exact Nat.le_refl _)) s (by unfold maxLen; omega) (by omega) hlt
  have hform : ∃ A' c', v' = .slice A' (n + s.size) c' ∧ ∀ k ∈ blks A', from_ w A ≤ k := by
    rcases h2.2 with ⟨rfl, h0⟩ | ⟨g, cap, cur, rfl, hb, _⟩
    · exact ⟨none, 0, by rw [h0], fun _ hk => nomatch hk⟩
    · exact ⟨_, _, rfl, fun k hk => by simp at hk; omega⟩
  obtain ⟨A', c', rfl, hb⟩ := hform
  refine ⟨A', c', w', hr, own_base h2 (fun _ _ => Nat.zero_le _), ?_, fun base h0 h1 k hk => ?_⟩
  · have := Only.of_grown h3
    cases A with
    | none => simpa [Value.ownBlock] using this
    | some a => simpa [Value.ownBlock] using this
  · have := hb k hk
    cases A with
    | none => exact Nat.le_trans h0 this
    | some ad => exact Nat.le_trans (h1 ad.block (by simp)) this
theorem wpListIn_append_str {ops : Array Oper} {rest : List Oper} {o : Oper} {a : Act} {Q : Exit → Act → World → Prop} (hgd : o.guard = none) (s x : Operand) (t u : TypeId)
    (ho : o.op = .call { callee := .builtin .append, args := #[s, x], argTypes := #[t, u] }) (e : TypeId) (i : TypeInfo) (ht : P.underlying t = some (.slice e)) (hu : P.underlying u = some .string) (hi : P.info? e = some i) (hz : i.zero = some (.int .u8 0)) (hsize : i.size = 1) (hby : i.bytes = 1)
    (A : Option Addr) (n c : Nat) (xs : List Value) (hs : a.eval s = .slice A n c) (hown : Own w e A n c xs) (tx : ByteArray) (hx : a.eval x = .string tx) (h63 : n + tx.size ≤ 140737488355328)
    (h : ∀ A' c' w', Own w' e A' (n + tx.size) c' (xs ++ bvs tx.data.toList) → Only (blks A) w w' → (∀ base, base ≤ w.heap.size → (∀ k ∈ blks A, base ≤ k) → ∀ k ∈ blks A', base ≤ k) → wpListIn F n₀ P ops Q rest (a.put o.dst (.slice A' (n + tx.size) c')) w') : wpListIn F n₀ P ops Q (o :: rest) a w := by
  refine wpListIn_plain hgd fun K hK => ?_
  obtain ⟨A', c', w', hr, h2, h3, h4⟩ := run_append_str2 (P := P) t u o.type e i ht hu hi hz hsize hby A n c xs hown tx h63
  unfold Oper.wpIn
  refine ⟨?_, ?_⟩
  · simp [Oper.about, ho, resolve, Target.leads, Sem.run_pure]
  · rw [Oper.semAt_plain F _ _ (by rw [ho]; intro c hc'; cases hc')]
    simp [execOp, ho, resolve, invoke, builtin, hs, hx, hr, Result.andThen]
    exact hK _ _ (h A' c' w' h2 h3 h4)
/-- The same, where the answer's length and what it reads as have names. -/
theorem wpListIn_append_as {ops : Array Oper} {rest : List Oper} {o : Oper} {a : Act} {Q : Exit → Act → World → Prop} (hgd : o.guard = none) (s x : Operand) (t : TypeId)
    (ho : o.op = .call { callee := .builtin .append, args := #[s, x], argTypes := #[t, t] }) (e : TypeId) (i : TypeInfo) (z : Value) (bytes : Nat) (ht : P.underlying t = some (.slice e)) (hi : P.info? e = some i)
    (hz : i.zero = some z) (hsize : i.size = 1) (hby : i.bytes = bytes) (hzs : z.cells.size = 1) (A : Option Addr) (n c : Nat) (xs : List Value) (hs : a.eval s = .slice A n c) (hown : Own w e A n c xs)
    (A2 : Option Addr) (m c2 : Nat) (news : List Value) (hx : a.eval x = .slice A2 m c2) (hr : Sl w A2 m news) (h1 : ∀ u ∈ news, u.oneCell' = true) (h63 : n + m ≤ maxLen) (hbytes : (n + m) * bytes ≤ 140737488355328)
    (N : Nat) (hN : n + m = N) (L : List Value) (hL : xs ++ news = L)
    (h : ∀ A' c' w', Own w' e A' N c' L → Only (blks A) w w' → (∀ k ∈ blks A', k ∈ blks A ∨ w.heap.size ≤ k) → wpListIn F n₀ P ops Q rest (a.put o.dst (.slice A' N c')) w') : wpListIn F n₀ P ops Q (o :: rest) a w := by
  subst hN hL
  exact wpListIn_append_sl hgd s x t ho e i z bytes ht hi hz hsize hby hzs A n c xs hs hown A2 m c2 news hx hr h1 h63 hbytes h
theorem wpListIn_append_lit {ops : Array Oper} {rest : List Oper} {o : Oper} {a : Act} {Q : Exit → Act → World → Prop} (hgd : o.guard = none) (s x : Operand) (t u : TypeId)
    (ho : o.op = .call { callee := .builtin .append, args := #[s, x], argTypes := #[t, u] }) (e : TypeId) (i : TypeInfo) (ht : P.underlying t = some (.slice e)) (hu : P.underlying u = some .string) (hi : P.info? e = some i) (hz : i.zero = some (.int .u8 0)) (hsize : i.size = 1) (hby : i.bytes = 1)
    (A : Option Addr) (n c : Nat) (xs : List Value) (hs : a.eval s = .slice A n c) (hown : Own w e A n c xs) (tx : ByteArray) (hx : a.eval x = .string tx) (h63 : n + tx.size ≤ 140737488355328)
    (N : Nat) (hN : n + tx.size = N) (L : List Value) (hL : xs ++ bvs tx.data.toList = L)
    (h : ∀ A' c' w', Own w' e A' N c' L → Only (blks A) w w' → (∀ base, base ≤ w.heap.size → (∀ k ∈ blks A, base ≤ k) → ∀ k ∈ blks A', base ≤ k) → wpListIn F n₀ P ops Q rest (a.put o.dst (.slice A' N c')) w') : wpListIn F n₀ P ops Q (o :: rest) a w := by
  subst hN hL
  exact wpListIn_append_str hgd s x t u ho e i ht hu hi hz hsize hby A n c xs hs hown tx hx h63 h
theorem wpList_append_as {ops : Array Oper} {rest : List Oper} {o : Oper} {a : Act} {Q : Exit → Act → World → Prop} (hgd : o.guard = none) (s x : Operand) (t : TypeId)
    (ho : o.op = .call { callee := .builtin .append, args := #[s, x], argTypes := #[t, t] }) (e : TypeId) (i : TypeInfo) (z : Value) (bytes : Nat) (ht : P.underlying t = some (.slice e)) (hi : P.info? e = some i)
    (hz : i.zero = some z) (hsize : i.size = 1) (hby : i.bytes = bytes) (hzs : z.cells.size = 1) (A : Option Addr) (n c : Nat) (xs : List Value) (hs : a.eval s = .slice A n c) (hown : Own w e A n c xs)
    (A2 : Option Addr) (m c2 : Nat) (news : List Value) (hx : a.eval x = .slice A2 m c2) (hr : Sl w A2 m news) (h1 : ∀ u ∈ news, u.oneCell' = true) (h63 : n + m ≤ maxLen) (hbytes : (n + m) * bytes ≤ 140737488355328)
    (N : Nat) (hN : n + m = N) (L : List Value) (hL : xs ++ news = L)
    (h : ∀ A' c' w', Own w' e A' N c' L → Only (blks A) w w' → (∀ k ∈ blks A', k ∈ blks A ∨ w.heap.size ≤ k) → wpList P ops Q rest (a.put o.dst (.slice A' N c')) w') : wpList P ops Q (o :: rest) a w := by
  subst hN hL
  exact wpList_append_sl hgd s x t ho e i z bytes ht hi hz hsize hby hzs A n c xs hs hown A2 m c2 news hx hr h1 h63 hbytes h
theorem wpList_append_lit {ops : Array Oper} {rest : List Oper} {o : Oper} {a : Act} {Q : Exit → Act → World → Prop} (hgd : o.guard = none) (s x : Operand) (t u : TypeId)
    (ho : o.op = .call { callee := .builtin .append, args := #[s, x], argTypes := #[t, u] }) (e : TypeId) (i : TypeInfo) (ht : P.underlying t = some (.slice e)) (hu : P.underlying u = some .string) (hi : P.info? e = some i) (hz : i.zero = some (.int .u8 0)) (hsize : i.size = 1) (hby : i.bytes = 1)
    (A : Option Addr) (n c : Nat) (xs : List Value) (hs : a.eval s = .slice A n c) (hown : Own w e A n c xs) (tx : ByteArray) (hx : a.eval x = .string tx) (h63 : n + tx.size ≤ 140737488355328)
    (N : Nat) (hN : n + tx.size = N) (L : List Value) (hL : xs ++ bvs tx.data.toList = L)
    (h : ∀ A' c' w', Own w' e A' N c' L → Only (blks A) w w' → (∀ base, base ≤ w.heap.size → (∀ k ∈ blks A, base ≤ k) → ∀ k ∈ blks A', base ≤ k) → wpList P ops Q rest (a.put o.dst (.slice A' N c')) w') : wpList P ops Q (o :: rest) a w := by
  subst hN hL
  refine wpList_plain hgd fun K hK => ?_
  obtain ⟨A', c', w', hr, h2, h3, h4⟩ := run_append_str2 (P := P) t u o.type e i ht hu hi hz hsize hby A n c xs hown tx h63
  unfold Oper.wp execOp
  simp only [ho, resolve, invoke, builtin, Sem.run_bind, Sem.run_pure, Result.andThen_ok, List.map_toArray, List.map_cons, List.map_nil, hs, hx, hr]
  exact hK _ _ (h A' c' w' h2 h3 h4)
end
end Go.Proofs.YtakehogenioobaaDoor
