/-
  Join, Sum and same in the forms in which callers call them.
-/
import Derived.Test.YtblggoneifmoeaaDoorSame
import Derived.Test.YtblggoneifmoeaaDoorJoin
import Derived.Test.YtblggoneifmoeaaDoorSum
namespace Go.Proofs.YtblggoneifmoeaaDoor
open Go.RowKit

theorem join_rows (A : Option Addr) (n c : Nat) (ls : List (List UInt8)) (p : List UInt8) (w : World) (hp : ls.flatten = p) (hr : Rw w A n ls) (hn : n ≤ 4611686018427387904) (ht : p.length ≤ 1000000000000) :
    Calls Tryd.prog 60 #[.slice A n c] w (Fresh w p) := by
  subst hp
  exact join_any A n c ls w hr (by omega) (by omega)
theorem join_two (w : World) (A B : Option Addr) (c d m k : Nat) (q r p : List UInt8) (hq : q.length = m) (hr : r.length = k) (hp : q ++ r = p) (hs : Sl w A m (bvs q)) (ht : Sl w B k (bvs r)) (hm : p.length ≤ 1000000000000) :
    Calls Tryd.prog 60 #[.slice (some ⟨w.heap.size, 0, none⟩) 2 2] (w.alloc (.cells #[.slice A m c, .slice B k d] 23)) (Fresh w p) := by
  subst hq hr
  have hfl : [q, r].flatten = p := by simpa using hp
  refine (join_rows (some ⟨w.heap.size, 0, none⟩) 2 2 [q, r] p (w.alloc (.cells #[.slice A q.length c, .slice B r.length d] 23)) hfl (Rw.two (Bk.new _ _ _) (hs.alloc _) (ht.alloc _)) (by omega) hm).mono fun e w' hh => ?_
  obtain ⟨P, cp, he, hv, ho, hb⟩ := hh
  exact ⟨P, cp, he, hv, ((Only.refl _ _).alloc _).then ho, fun k hk => by have := hb k hk; rw [World.size_alloc] at this; omega⟩
theorem sum_rows (A : Option Addr) (n c : Nat) (ls : List (List UInt8)) (p : List UInt8) (w : World) (hp : ls.flatten = p) (hr : Rw w A n ls) (ht : Tab w) (hn : n ≤ 4611686018427387904) (hb : p.length ≤ 1000000000000) :
    Calls Tryd.prog 75 #[.slice A n c] w fun e w' => e = .returned (.int .u32 (sumOf p : Nat)) ∧ w = w' := by
  subst hp
  refine sum_any A n c ls w hr ht (by omega) (fun r hr' => ?_)
  obtain ⟨a, b, rfl⟩ := List.append_of_mem hr'
  simp only [List.flatten_append, List.flatten_cons, List.length_append] at hb
  omega
theorem sum_one (w : World) (A : Option Addr) (c m : Nat) (q : List UInt8) (hlen : q.length = m) (hs : Sl w A m (bvs q)) (ht : Tab w) (hm : m ≤ 1000000000000) :
    Calls Tryd.prog 75 #[.slice (some ⟨w.heap.size, 0, none⟩) 1 1] (w.alloc (.cells #[.slice A m c] 23)) fun e w' => e = .returned (.int .u32 (sumOf q : Nat)) ∧ w.alloc (.cells #[.slice A m c] 23) = w' := by
  subst hlen
  exact sum_rows _ 1 1 [q] q _ (by simp) (Rw.one (Bk.new _ _ _) (hs.alloc _)) (ht.keep ((Only.refl _ _).alloc _)) (by omega) hm
end Go.Proofs.YtblggoneifmoeaaDoor
