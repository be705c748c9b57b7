/-
  Maps from texts to structs: what a map holds, as rows of names and values; what is looked up, laid in, taken out.
-/
import Derived.Test.YtmjkdfneohpbjaaRise
import Derived.Test.YtmjkdfneohpbjaaKeyL
import Derived.Test.YtmjkdfneohpbjaaWords
import Derived.Maps.Ext
import Derived.Maps.RangeWalk
namespace Go.Proofs.Ytmjkdfneohpbjaa
open Go.RowKit Go.Maps

/-- A value of the kind p, held as it is. -/
def heldP (p : Value → Bool) (v : Value) : Option (DataW Value × List MemPlace) := if p v = true then some (.held v, []) else none
theorem heldP_mk {p : Value → Bool} {v : Value} (h : p v = true) : heldP p v = some (.held v, []) := by unfold heldP; rw [if_pos h]
theorem heldP_inv {p : Value → Bool} {v : Value} {y : DataW Value × List MemPlace} (h : heldP p v = some y) : p v = true ∧ y = (.held v, []) := by
  unfold heldP at h
  split at h
  · rename_i hc
    exact ⟨hc, by injection h with h; exact h.symm⟩
  · cases h
abbrev Kv := ByteArray × Value
def entK (p : Kv) : Lit × DataW Value := (keyLit p.1, .held p.2)
def DK (l : List Kv) : DataW Value := .map (l.map entK)
theorem fst_ent (s : ByteArray) : ((fun p : Lit × DataW Value => p.1.sameKey (keyLit s)) ∘ entK) = fun p : Kv => decide (p.1 = s) := by
  funext p
  exact same_key _ _
theorem atKey_DK (l : List Kv) (s : ByteArray) (z : DataW Value) : (DK l).atKey (keyLit s) z = match findL Prod.fst l s with | some p => .held p.2 | none => z := by
  unfold DK DataW.atKey findL
  simp only []
  rw [List.find?_map, fst_ent]
  cases List.find? (fun p : Kv => decide (p.1 = s)) l <;> rfl
theorem has_DK (l : List Kv) (s : ByteArray) : Maps.has (DK l) (keyLit s) = (findL Prod.fst l s).isSome := by
  unfold DK Maps.has findL
  simp only []
  rw [List.any_map, fst_ent, Bool.eq_iff_iff, List.find?_isSome, List.any_eq_true]
theorem size_DK (l : List Kv) : Maps.size (DK l) = l.length := by simp [DK, Maps.size]
theorem keys_DK (l : List Kv) : strKeys (DK l) = l.map fun p => p.1.data.toList := by
  unfold DK strKeys
  simp only [List.map_map]
  rfl
theorem del_DK (l : List Kv) (s : ByteArray) : (DK l).del (keyLit s) = DK (delL Prod.fst l s) := by
  show DataW.map ((l.map entK).filter fun p => !p.1.sameKey (keyLit s)) = DataW.map ((delL Prod.fst l s).map entK)
  rw [List.filter_map]
  unfold delL
  congr 2
  congr 1
  funext p
  show (!(keyLit p.1).sameKey (keyLit s)) = _
  rw [same_key]
theorem insert_DK (x : Kv) : ∀ l : List Kv, DataW.insert (entK x) (l.map entK) = (insL Prod.fst x l).map entK
  | [] => rfl
  | g :: r => by
    unfold insL
    simp only [List.map_cons]
    unfold DataW.insert
    have : (entK x).1.before (entK g).1 = bef x.1 g.1 := before_key _ _
    rw [this]
    split
    · rfl
    · rw [List.map_cons, insert_DK x r]
theorem put_DK (x : Kv) (l : List Kv) : (DK l).put (keyLit x.1) (.held x.2) = DK (putL Prod.fst x l) := by
  show DataW.map (DataW.insert (entK x) ((l.map entK).filter fun p => !p.1.sameKey (keyLit x.1))) = _
  have hf : ((l.map entK).filter fun p => !p.1.sameKey (keyLit x.1)) = (delL Prod.fst l x.1).map entK := by
    rw [List.filter_map]
    unfold delL
    congr 1
    congr 1
    funext p
    show (!(keyLit p.1).sameKey (keyLit x.1)) = _
    rw [same_key]
  rw [hf]
  exact congrArg DataW.map (insert_DK x _)

/-! ### In a world -/
/-- Block m is a map that holds these, by rising names; each a value of the kind n. -/
def KvAt (n : Value → Bool) (w : World) (m : Nat) (l : List Kv) : Prop := w.ownsMap Try.prog 9 (heldP n) m l.length (DK l)
def KvIs (n : Value → Bool) (w : World) (mb : Option Nat) (l : List Kv) : Prop :=
  match mb with
  | none => l = []
  | some m => KvAt n w m l
section
variable {n : Value → Bool} {w w' : World} {m : Nat} {mb : Option Nat} {l : List Kv} {s : ByteArray} {rs : List Nat}
theorem KvAt.only (h : KvAt n w m l) (o : Only rs w w') (hn : m ∉ rs) : KvAt n w' m l := by
  have hlt := World.ownsMap.lt h
  obtain ⟨es, clock, hb, r⟩ := h
  exact ⟨es, clock, (o.block m hlt hn).trans hb, r⟩
theorem KvIs.only (h : KvIs n w mb l) (o : Only rs w w') (hn : ∀ m, mb = some m → m ∉ rs) : KvIs n w' mb l := by
  cases mb with
  | none => exact h
  | some m => exact KvAt.only h o (hn m rfl)
theorem KvIs.keep (h : KvIs n w mb l) (o : Only [] w w') : KvIs n w' mb l := h.only o fun _ _ hm => nomatch hm
theorem KvAt.lt (h : KvAt n w m l) : m < w.heap.size := World.ownsMap.lt h
theorem KvIs.lt (h : KvIs n w mb l) : ∀ m, mb = some m → m < w.heap.size := by
  rintro m rfl
  exact KvAt.lt h
theorem KvAt.of {k : Nat} (h : w.ownsMap Try.prog 9 (heldP n) m k (DK l)) : KvAt n w m l := by
  obtain ⟨es, clock, hb, F, _, hD⟩ := h
  refine ⟨es, clock, hb, F, ?_, hD⟩
  rw [← size_DK l, hD]
  simp [Maps.size, length_sorted]
theorem KvAt.rise (h : KvAt n w m l) : Rise Prod.fst l := by
  obtain ⟨es, he, hp, _⟩ := World.ownsMap.canon h keyed
  unfold DK at he
  injection he with he
  rw [← he, List.pairwise_map] at hp
  exact hp.imp fun {a b} h => by rw [← before_key]; exact h
theorem KvIs.rise (h : KvIs n w mb l) : Rise Prod.fst l := by
  cases mb with
  | none =>
    have : l = [] := h
    rw [this]
    exact List.Pairwise.nil
  | some m => exact KvAt.rise h
/-- What a look-up answers. -/
def valK (z : Array Value) (l : List Kv) (s : ByteArray) : Value := match findL Prod.fst l s with
  | some p => p.2
  | none => .agg z
theorem look_kv (c : Bool) {t e : TypeId} (ht : Try.prog.underlying t = some (.map 9 e)) {z : Array Value} (hz : (zeroValue e).run Try.prog w = .ok (.agg z) w) (hzn : n (.agg z) = true) (h : KvIs n w mb l) (hs : s.size ≤ maxLen) :
    (Instr.lookup t (.map mb) (.string s) c).run Try.prog w = .ok (if c then .tuple #[valK z l s, .bool (findL Prod.fst l s).isSome] else valK z l s) w := by
  have hk := key_of s hs
  have hzd := heldP_mk hzn
  have hv : ∀ (v : Value) (ps : List MemPlace), heldP n v = some ((DK l).atKey (keyLit s) (.held (.agg z)), ps) → v = valK z l s := fun v ps hv => by
    obtain ⟨_, e2⟩ := heldP_inv hv
    rw [atKey_DK] at e2
    have e3 := congrArg Prod.fst e2
    clear e2 hv
    dsimp only at e3
    unfold valK
    revert e3
    cases findL Prod.fst l s with
    | none => exact fun e => (DataW.held.inj e).symm
    | some p => exact fun e => (DataW.held.inj e).symm
  cases mb with
  | none =>
    have hl : l = [] := h
    subst hl
    rw [Maps.look_nil c keyed ht hz hk]
    have e : findL Prod.fst ([] : List Kv) s = none := rfl
    have e2 : valK z [] s = .agg z := by unfold valK; rw [e]
    rw [e, e2]
    simp
  | some m =>
    cases c with
    | true =>
      obtain ⟨v, ps, hr, hv'⟩ := World.ownsMap.look_ok h keyed ht hz hzd hk
      rw [hr, hv v ps hv', has_DK]
      rfl
    | false =>
      obtain ⟨v, ps, hr, hv'⟩ := World.ownsMap.lookup h keyed ht hz hzd hk
      rw [hr, hv v ps hv']
      rfl
theorem len_kv {t e : TypeId} (ht : Try.prog.underlying t = some (.map 9 e)) (h : KvIs n w mb l) (ty : TypeId) : (Builtin.len_ #[t] ty #[.map mb]).run Try.prog w = .ok (.int .i64 (l.length : Int)) w := by
  cases mb with
  | none =>
    have hl : l = [] := h
    subst hl
    exact Maps.len_nil ht ty
  | some m =>
    have := World.ownsMap.len h ht ty
    rw [this, size_DK]
end
end Go.Proofs.Ytmjkdfneohpbjaa
