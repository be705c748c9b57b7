/-
  Rows by rising names, as plain data: found, taken out, laid in. Nothing of the program stands here.
-/
import Derived.Test.YtmjkdfneohpbjaaDMath
namespace Go.Proofs.Ytmjkdfneohpbjaa

/-! ### Rows by rising names -/
section
variable {α β : Type}
def findL (key : α → ByteArray) (l : List α) (s : ByteArray) : Option α := l.find? fun x => decide (key x = s)
def delL (key : α → ByteArray) (l : List α) (s : ByteArray) : List α := l.filter fun x => !decide (key x = s)
def insL (key : α → ByteArray) (x : α) : List α → List α
  | [] => [x]
  | g :: r => if bef (key x) (key g) then x :: g :: r else g :: insL key x r
def putL (key : α → ByteArray) (x : α) (l : List α) : List α := insL key x (delL key l (key x))
def Rise (key : α → ByteArray) (l : List α) : Prop := l.Pairwise fun x y => bef (key x) (key y) = true
variable {key : α → ByteArray} {l : List α} {s : ByteArray} {x y : α}
theorem findL_some (h : findL key l s = some x) : x ∈ l ∧ key x = s := ⟨List.mem_of_find?_eq_some h, by have := List.find?_some h; simpa using this⟩
theorem findL_none : findL key l s = none ↔ ∀ x ∈ l, key x ≠ s := by unfold findL; simp
theorem findL_map (f : α → β) (key' : β → ByteArray) (hf : ∀ x, key' (f x) = key x) (l : List α) (s : ByteArray) : findL key' (l.map f) s = (findL key l s).map f := by
  unfold findL
  rw [List.find?_map]
  congr 1
  have : ((fun x => decide (key' x = s)) ∘ f) = fun x => decide (key x = s) := by funext x; simp [hf]
  rw [this]
theorem delL_map (f : α → β) (key' : β → ByteArray) (hf : ∀ x, key' (f x) = key x) (l : List α) (s : ByteArray) : delL key' (l.map f) s = (delL key l s).map f := by
  unfold delL
  rw [List.filter_map]
  have : ((fun x => !decide (key' x = s)) ∘ f) = fun x => !decide (key x = s) := by funext x; simp [hf]
  rw [this]
theorem insL_map (f : α → β) (key' : β → ByteArray) (hf : ∀ x, key' (f x) = key x) (x : α) : ∀ l : List α, insL key' (f x) (l.map f) = (insL key x l).map f
  | [] => rfl
  | g :: r => by
    unfold insL
    simp only [List.map_cons, hf]
    split
    · rfl
    · rw [List.map_cons, insL_map f key' hf x r]
theorem putL_map (f : α → β) (key' : β → ByteArray) (hf : ∀ x, key' (f x) = key x) (x : α) (l : List α) : putL key' (f x) (l.map f) = (putL key x l).map f := by
  unfold putL
  rw [hf, delL_map f key' hf, insL_map f key' hf]
theorem mem_insL : ∀ {l : List α}, y ∈ insL key x l ↔ y = x ∨ y ∈ l
  | [] => by simp [insL]
  | h :: r => by
    unfold insL
    split
    · simp
    · simp only [List.mem_cons, mem_insL (l := r)]
      constructor
      · rintro (h | h | h)
        · exact .inr (.inl h)
        · exact .inl h
        · exact .inr (.inr h)
      · rintro (h | h | h)
        · exact .inr (.inl h)
        · exact .inl h
        · exact .inr (.inr h)
theorem mem_delL : y ∈ delL key l s ↔ y ∈ l ∧ key y ≠ s := by unfold delL; simp
theorem mem_putL : y ∈ putL key x l ↔ y = x ∨ (y ∈ l ∧ key y ≠ key x) := by unfold putL; rw [mem_insL, mem_delL]
theorem length_insL (x : α) : ∀ l : List α, (insL key x l).length = l.length + 1
  | [] => rfl
  | g :: r => by
    unfold insL
    split
    · rfl
    · rw [List.length_cons, length_insL x r, List.length_cons]
theorem length_delL : (delL key l s).length ≤ l.length := List.length_filter_le _ _
theorem length_putL : (putL key x l).length ≤ l.length + 1 := by
  unfold putL
  rw [length_insL]
  have := length_delL (key := key) (l := l) (s := key x)
  omega
theorem Rise.del (h : Rise key l) (s : ByteArray) : Rise key (delL key l s) := h.filter _
theorem Rise.ins : ∀ {l : List α}, Rise key l → (∀ g ∈ l, key g ≠ key x) → Rise key (insL key x l)
  | [], _, _ => by simp [insL, Rise]
  | g :: r, h, hn => by
    obtain ⟨h1, h2⟩ := List.pairwise_cons.1 h
    unfold insL
    split
    · rename_i hb
      refine List.pairwise_cons.2 ⟨fun z hz => ?_, h⟩
      rcases List.mem_cons.1 hz with rfl | hz
      · exact hb
      · exact bef_trans hb (h1 z hz)
    · rename_i hb
      have hgx : bef (key g) (key x) = true := by
        rcases bef_total (hn g (by simp)) with h' | h'
        · exact h'
        · exact absurd h' hb
      refine List.pairwise_cons.2 ⟨fun z hz => ?_, Rise.ins h2 fun z hz => hn z (by simp [hz])⟩
      rcases mem_insL.1 hz with rfl | hz
      · exact hgx
      · exact h1 z hz
theorem Rise.put (h : Rise key l) (x : α) : Rise key (putL key x l) := (h.del _).ins fun _ hg => (mem_delL.1 hg).2
theorem Rise.inj (h : Rise key l) (hx : x ∈ l) (hy : y ∈ l) (e : key x = key y) : x = y := by
  induction l with
  | nil => cases hx
  | cons a r ih =>
    obtain ⟨h1, h2⟩ := List.pairwise_cons.1 h
    rcases List.mem_cons.1 hx with hx1 | hx1
    · rcases List.mem_cons.1 hy with hy1 | hy1
      · rw [hx1, hy1]
      · subst hx1
        exact absurd e (bef_ne (h1 y hy1))
    · rcases List.mem_cons.1 hy with hy1 | hy1
      · subst hy1
        exact absurd e.symm (bef_ne (h1 x hx1))
      · exact ih h2 hx1 hy1
theorem Rise.find (h : Rise key l) (hx : x ∈ l) : findL key l (key x) = some x := by
  cases e : findL key l (key x) with
  | none => exact absurd rfl (findL_none.1 e x hx)
  | some y => rw [h.inj hx (findL_some e).1 (findL_some e).2.symm]
theorem delL_none (h : findL key l s = none) : delL key l s = l := by
  unfold delL
  rw [List.filter_eq_self]
  intro x hx
  simp [findL_none.1 h x hx]
theorem findL_ins_ne (h : key x ≠ s) : ∀ l : List α, findL key (insL key x l) s = findL key l s
  | [] => by simp [insL, findL, h]
  | g :: r => by
    unfold insL
    split
    · unfold findL; rw [List.find?_cons]; simp [h]
    · have := findL_ins_ne h r
      unfold findL at this ⊢
      rw [List.find?_cons, List.find?_cons, this]
theorem findL_del_ne {t : ByteArray} (h : t ≠ s) : findL key (delL key l t) s = findL key l s := by
  unfold findL delL
  rw [List.find?_filter]
  congr 1
  funext a
  by_cases e : key a = s
  · simp [e, h.symm]
  · simp [e]
theorem findL_put_ne (h : key x ≠ s) : findL key (putL key x l) s = findL key l s := by
  unfold putL
  rw [findL_ins_ne h, findL_del_ne h]
theorem findL_put (x : α) (l : List α) : findL key (putL key x l) (key x) = some x := by
  cases e : findL key (putL key x l) (key x) with
  | none => exact absurd rfl (findL_none.1 e x (mem_putL.2 (.inl rfl)))
  | some y =>
    obtain ⟨h1, h2⟩ := findL_some e
    rcases mem_putL.1 h1 with rfl | h
    · rfl
    · exact absurd h2 h.2
theorem findL_del (l : List α) (s : ByteArray) : findL key (delL key l s) s = none := findL_none.2 fun _ hx => (mem_delL.1 hx).2
end
end Go.Proofs.Ytmjkdfneohpbjaa
