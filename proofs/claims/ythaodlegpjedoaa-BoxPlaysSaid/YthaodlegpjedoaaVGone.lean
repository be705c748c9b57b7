/-
  The law BoxGone; what the laws that ask for a box that may be begin with.
-/
import Derived.Test.YthaodlegpjedoaaVKnown
import Derived.Test.YthaodlegpjedoaaVIs4
namespace Go.Proofs.Ythaodlegpjedoaa
open Go.RowKit Go.Instr

/-- It answers true or false. -/
def SomeB (w : World) (e : Ending) (w' : World) : Prop := ∃ b, e = .returned (.bool b) ∧ Only [] w w'
set_option maxRecDepth 100000 in
set_option maxHeartbeats 1000000 in
/-- large answers something. -/
theorem large_any {S : Nat → Prop} {w : World} (b : Bx) {A : Option Addr} {c : Nat} (h : Ms S w A b.l.length b.l) (hn : b.l.length ≤ 140737488355328) :
    Calls Try.prog 19 #[bxv b A c] w (SomeB w) := by
  obtain ⟨s, v, x, l⟩ := b
  obtain ⟨n, hl⟩ : ∃ n, l.length = n := ⟨_, rfl⟩
  simp only at h hn
  rw [bxv_eq hl]
  rw [hl] at h hn
  have hO0 : Only [] w (w.alloc (.cells #[.string (St s), .int .i64 v, .int .i64 x, .slice A n c] 26)) := (Only.refl _ _).alloc _
  have HS := Lib.hid (h.keep hO0)
  have HL := Lib.hid hl
  have B0 := Lib.hid (Bk.new w 26 #[.string (St s), .int .i64 v, .int .i64 x, .slice A n c])
  clear h hl
  generalize St s = t at *
  go_enter Try.func19, Try.ntmps19
  go_wp2
  generalize w.alloc (.cells #[.string t, .int .i64 v, .int .i64 x, .slice A n c] 26) = w2 at *
  generalize w.heap.size = g at B0 ⊢
  obtain ⟨c0, c1, c2, c3⟩ := bk_four B0.out
  clear c0 c1 c2
  go_loop [3, 4] (fun sv iv => ∃ (k : Nat) (z : Int), iv = .int .i64 (k : Int) ∧ sv = .int .i64 z ∧ k ≤ n) (fun _ iv => n - (intOf iv).toNat)
  case atStart => exact ⟨0, _, rfl, rfl, Nat.zero_le _⟩
  case round =>
    obtain ⟨k, z, rfl, rfl, hk⟩ := hrel
    by_cases hlt : k < n
    · have hlt' : (k : Int) < (n : Int) := by omega
      have hkl : k < l.length := by rw [HL.out]; exact hlt
      obtain ⟨ad, Ab, cb, rfl, _, m0, m1, m2, m3, _, _⟩ := HS.out.at_ hlt hkl
      generalize l[k].body.length = y at m3
      clear m0 m1 m2
      go_wp2
      go_round
      case rel => exact ⟨k + 1, _, by go_num, rfl, by omega⟩
      case measure => simp [intOf]; omega
    · obtain rfl : k = n := by omega
      go_wp2
      go_ret
      exact ⟨_, rfl, hO0⟩
/-- Find, its answer named. -/
theorem find_as {S : Nat → Prop} {w : World} {s : List UInt8} {v x : Int} {l : List Mg} {n c : Nat} {A : Option Addr} (hl : l.length = n) (h : Ms S w A n l) (hn : n ≤ 140737488355328) (u q : Int) (hq : findI l u = q) :
    Calls Try.prog 33 #[.agg #[.string (St s), .int .i64 v, .int .i64 x, .slice A n c], .int .i64 u] w fun e w' => e = .returned (.int .i64 q) ∧ Only [] w w' := by
  subst hl hq
  exact Find_any ⟨s, v, x, l⟩ h hn u
/-- Expunge, its answer in named parts. -/
theorem exp_as {S : Nat → Prop} {w : World} {s : List UInt8} {v x : Int} {l lc : List Mg} {gl : List Int} {n nc ng c : Nat} {A : Option Addr} (hl : l.length = n) (h : Ms S w A n l) (hn : n ≤ 1000000) (hb : ∀ m ∈ l, m.body.length ≤ 1000000) (hS : ∀ y, w.heap.size ≤ y → S y) (U : Option Addr) (nu cu : Nat) (us : List Int) (hU : Sl w U nu (ivs us)) (hnu : nu ≤ 140737488355328)
    (h1 : stayL us l = lc) (h2 : goneL us l = gl) (h3 : lc.length = nc) (h4 : gl.length = ng) :
    Calls Try.prog 28 #[.agg #[.string (St s), .int .i64 v, .int .i64 x, .slice A n c], .slice U nu cu] w fun e w' =>
      ∃ A' c' Ag cg, e = .returned (.tuple #[.agg #[.string (St s), .int .i64 v, .int .i64 x, .slice A' nc c'], .slice Ag ng cg]) ∧ Ms S w' A' nc lc ∧ Sl w' Ag ng (ivs gl) ∧ (∀ k ∈ blks Ag, w.heap.size ≤ k) ∧ Only [] w w' := by
  subst hl h1 h2 h3 h4
  exact Expunge_any ⟨s, v, x, l⟩ h hn hb hS U nu cu us hU hnu
end Go.Proofs.Ythaodlegpjedoaa
