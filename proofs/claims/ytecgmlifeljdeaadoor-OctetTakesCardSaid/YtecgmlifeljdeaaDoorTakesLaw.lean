/-
  The law OctetTakes, for every input.
-/
import Derived.Test.YtecgmlifeljdeaaDoorTakes
namespace Go.Proofs.YtecgmlifeljdeaaDoor
open Go.RowKit

theorem takes_any (A : Option Addr) (n c : Nat) (l0 : List UInt8) (K : Option Addr) (m cK : Nat) (ks : List Int) (N : Option Addr) (q cN : Nat) (ns : List Int) (w : World) (ht : Tab w)
    (ha : Sl w A n (bvs l0)) (nb : n ≤ 9223372036854775807) (hk : Sl w K m (ivs ks)) (_ : Fits ks) (mb : m ≤ 9223372036854775807) (hn : Sl w N q (ivs ns)) (_ : Fits ns) (qb : q ≤ 9223372036854775807) :
    Calls Tryd.prog 5 #[.slice A n c, .slice K m cK, .slice N q cN] w fun e w' => e = .returned (.bool true) ∧ Only [] w w' := by
  have hl : l0.length = n := by simpa using ha.len
  by_cases h1 : 4000 < n
  · clear ha hk hn hl
    go_enter Tryd.func5, Tryd.ntmps5
    go_wp2
    go_ret
    exact ⟨rfl, Only.refl _ _⟩
  · by_cases h2 : 200 < m
    · clear ha hk hn hl
      go_enter Tryd.func5, Tryd.ntmps5
      go_wp2
      go_ret
      exact ⟨rfl, Only.refl _ _⟩
    · by_cases h3 : q < m
      · clear ha hk hn hl
        go_enter Tryd.func5, Tryd.ntmps5
        go_wp2
        go_ret
        exact ⟨rfl, Only.refl _ _⟩
      · subst hl
        exact takes_light A c l0 K m cK ks N q cN ns w ht ha hk hn (by omega) (by omega) (by omega) qb
end Go.Proofs.YtecgmlifeljdeaaDoor
