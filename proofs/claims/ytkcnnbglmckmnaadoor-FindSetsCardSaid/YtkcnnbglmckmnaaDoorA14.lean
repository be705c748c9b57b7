/-
  Texts of the seat, laid one behind the other: ZNum2 ZSets HRefF ZSetsL.
-/
import Derived.Test.YtkcnnbglmckmnaaDoorA12
import Derived.Test.YtkcnnbglmckmnaaDoorA10
import Derived.Lib.ConvBytes
import Derived.IntWalk
import Derived.Test.YtkcnnbglmckmnaaDoorA2
import Derived.Test.YtkcnnbglmckmnaaDoorA1
import Derived.Test.YtkcnnbglmckmnaaDoorA6
import Derived.Test.YtkcnnbglmckmnaaDoorA5
import Derived.Test.YtkcnnbglmckmnaaDoorA4
namespace Go.Proofs.YtkcnnbglmckmnaaDoor
open Go.RowKit Go.Instr
def dig2 (n : Nat) : List UInt8 := if n < 10 then [UInt8.ofNat (48 + n)] else [UInt8.ofNat (48 + n / 10), UInt8.ofNat (48 + n % 10)]
theorem dig2_num : ((List.range 100).all fun n => decide (n = 0 ∨ (numL (dig2 n) = n ∧ ix 44 (dig2 n) = (dig2 n).length ∧ ix 58 (dig2 n) = (dig2 n).length ∧ (dig2 n).length ≤ 2))) = true := by decide +kernel
theorem dig2_at {n : Nat} (h1 : 1 ≤ n) (h2 : n ≤ 99) : numL (dig2 n) = n ∧ ix 44 (dig2 n) = (dig2 n).length ∧ ix 58 (dig2 n) = (dig2 n).length ∧ (dig2 n).length ≤ 2 := by
  have h := dig2_num
  rw [List.all_eq_true] at h
  have h3 := of_decide_eq_true (h n (List.mem_range.2 (by omega)))
  rcases h3 with h3 | h3
  · omega
  · exact h3
theorem zix_app {c : UInt8} : ∀ (a b : List UInt8), ix c a = a.length → ix c (a ++ b) = a.length + ix c b
  | [], b, _ => by simp
  | x :: r, b, h => by
    rw [List.cons_append, ix_cons]
    rw [ix_cons] at h
    by_cases hx : x = c
    · rw [if_pos hx] at h; simp at h
    · rw [if_neg hx] at h ⊢
      have h2 : ix c r = r.length := by simpa using h
      rw [zix_app r b h2, List.length_cons]
      omega
def setT (a b : Nat) : List UInt8 := dig2 a ++ 58 :: dig2 b
theorem set_parse {a b : Nat} (ha : 1 ≤ a) (ha2 : a ≤ 99) (hb : 1 ≤ b) (hb2 : b ≤ 99) : prs 16 (setT a b) = some [((a : Int), (b : Int))] := by
  obtain ⟨n1, c1, d1, l1⟩ := dig2_at ha ha2
  obtain ⟨n2, c2, d2, l2⟩ := dig2_at hb hb2
  have h44 : ix 44 (setT a b) = (setT a b).length := by
    unfold setT
    rw [zix_app _ _ c1, ix_cons, if_neg (by decide), c2, List.length_append, List.length_cons]
  have h58 : ix 58 (setT a b) = (dig2 a).length := by
    unfold setT
    rw [zix_app _ _ d1, ix_cons, if_pos rfl]
    rfl
  refine prs_end (m := 15) ?_ h44
  rw [List.take_of_length_le (by omega)]
  unfold rOf
  simp only [h58]
  have hl : (dig2 a).length < (setT a b).length := by unfold setT; simp
  rw [if_pos hl, if_pos hl]
  have e1 : (setT a b).take (dig2 a).length = dig2 a := by unfold setT; rw [List.take_left]
  have e2 : (setT a b).drop ((dig2 a).length + 1) = dig2 b := by unfold setT; rw [List.drop_append]; simp
  rw [e1, e2, n1, n2, if_neg (by omega)]
theorem word_digit {x : UInt8} {r : List UInt8} (hx : x.toNat < 58) : oneK (prs 16) (x :: r) = (prs 16 (x :: r)).map fun l => Ky.mk 7 0 [] [] l [] := by
  have hlow : lowB x = x := lowB_same (by omega)
  have hne : ∀ m : List UInt8, (∃ y q, m = y :: q ∧ 58 ≤ y.toNat) → lowT (x :: r) ≠ m := fun m ⟨y, q, hm, hy⟩ e => by
    subst hm
    unfold lowT at e
    rw [List.map_cons, hlow] at e
    injection e with e _
    rw [e] at hx
    omega
  have hun : (lowT (x :: r)).take 2 ≠ unW := by
    intro e
    cases r with
    | nil =>
      unfold lowT unW at e
      simp at e
    | cons z q =>
      unfold lowT unW at e
      simp only [List.map_cons, hlow, List.take_succ_cons, List.take_zero] at e
      injection e with e _
      rw [e] at hx
      exact absurd hx (by decide)
  unfold oneK wordK
  simp only
  have hsft : ¬ (lowT (x :: r) = subjectW ∨ lowT (x :: r) = fromW ∨ lowT (x :: r) = toW) := by
    rintro (h | h | h)
    · exact hne subjectW ⟨_, _, rfl, by decide⟩ h
    · exact hne fromW ⟨_, _, rfl, by decide⟩ h
    · exact hne toW ⟨_, _, rfl, by decide⟩ h
  rw [if_neg (hne allW ⟨_, _, rfl, by decide⟩), if_neg (hne largerW ⟨_, _, rfl, by decide⟩), if_neg (hne smallerW ⟨_, _, rfl, by decide⟩), if_neg (hne textW ⟨_, _, rfl, by decide⟩), if_neg hsft, if_neg (hne uidW ⟨_, _, rfl, by decide⟩), if_neg (hne notW ⟨_, _, rfl, by decide⟩), if_neg (hne orW ⟨_, _, rfl, by decide⟩)]
  have hf : flagN (lowT (x :: r)) = 0 := by
    unfold flagN
    rw [if_neg (hne seenW ⟨_, _, rfl, by decide⟩), if_neg (hne answeredW ⟨_, _, rfl, by decide⟩), if_neg (hne flaggedW ⟨_, _, rfl, by decide⟩), if_neg (hne deletedW ⟨_, _, rfl, by decide⟩), if_neg (hne draftW ⟨_, _, rfl, by decide⟩)]
  have hu : unF (lowT (x :: r)) = 0 := by unfold unF; rw [if_neg hun]
  rw [if_neg (by rw [hf]; simp), if_neg (by rw [hu]; simp)]
  cases prs 16 (x :: r) <;> rfl
theorem dig2_head (n : Nat) (h : n ≤ 99) : ∃ x r, dig2 n = x :: r ∧ x.toNat < 58 := by
  unfold dig2
  split
  · exact ⟨_, _, rfl, by rw [UInt8.toNat_ofNat']; omega⟩
  · exact ⟨_, _, rfl, by rw [UInt8.toNat_ofNat']; omega⟩
def setK (kd : Int) (a b : Nat) : Ky := andK [.mk kd 0 [] [] [((a : Int), (b : Int))] []]
theorem sets_parse {a b : Nat} (ha : 1 ≤ a) (ha2 : a ≤ 99) (hb : 1 ≤ b) (hb2 : b ≤ 99) : parseK (prs 16) (atomsT [setT a b]) = some (setK 7 a b) ∧ parseK (prs 16) (atomsT [[85, 73, 68], setT a b]) = some (setK 8 a b) := by
  have hp := set_parse ha ha2 hb hb2
  obtain ⟨x, r, hx, h58⟩ := dig2_head a ha2
  have hS : setT a b = x :: (r ++ 58 :: dig2 b) := by unfold setT; rw [hx]; rfl
  constructor
  · show parseK (prs 16) [(1, setT a b)] = _
    rw [parse_one, hS, word_digit h58, ← hS, hp]
    rfl
  · refine parse_some (prs 16) ?_
    show keyD (prs 16) 5 [(1, [85, 73, 68]), (1, setT a b)] = _
    rw [keyD_atom]
    unfold wordK
    have e : lowT [85, 73, 68] = uidW := by decide
    simp only [e]
    rw [if_neg (by decide), if_neg (by decide), if_neg (by decide), if_neg (by decide), if_neg (by decide), if_pos trivial]
    unfold setArg atomArg
    simp only [if_true, Option.bind_some, hp, Option.map_some]
theorem has_set {a b : Nat} {x : Int} (hx : 1 ≤ x) (ha : 1 ≤ a) (ha2 : a ≤ 99) (hb : 1 ≤ b) (hb2 : b ≤ 99) : hasL [((a : Int), (b : Int))] x 99 = (decide (min (a : Int) (b : Int) ≤ x) && decide (x ≤ max (a : Int) (b : Int))) := by
  unfold hasL
  rw [decide_eq_true hx]
  simp only [List.any_cons, List.any_nil, Bool.or_false, Bool.true_and]
  unfold hasR endV
  simp only
  rw [if_neg (by omega), if_neg (by omega)]
theorem set_means {a b : Nat} {pl uid : Int} (hp : 1 ≤ pl) (hu : 1 ≤ uid) (ha : 1 ≤ a) (ha2 : a ≤ 99) (hb : 1 ≤ b) (hb2 : b ≤ 99) :
    meansK ⟨uid, 0, 0, []⟩ pl 99 99 (setK 7 a b) = (decide (min (a : Int) (b : Int) ≤ pl) && decide (pl ≤ max (a : Int) (b : Int))) ∧ meansK ⟨uid, 0, 0, []⟩ pl 99 99 (setK 8 a b) = (decide (min (a : Int) (b : Int) ≤ uid) && decide (uid ≤ max (a : Int) (b : Int))) := by
  rw [← has_set hp ha ha2 hb hb2, ← has_set hu ha ha2 hb hb2]
  unfold meansK setK
  rw [match_one, match_one, matchK, matchK]
  exact ⟨rfl, rfl⟩
end Go.Proofs.YtkcnnbglmckmnaaDoor
namespace Go.Proofs.YtkcnnbglmckmnaaDoor
open Go.RowKit Go.Instr
set_option maxRecDepth 100000 in
set_option maxHeartbeats 1000000 in
theorem num_any (n : Nat) (h : n ≤ 99) (w : World) : Calls Tryd.prog 21 #[.int .i64 (n : Int)] w fun e w' => e = .returned (.string (St (dig2 n))) ∧ Only [] w w' := by
  by_cases h1 : n < 10
  · have h1' : (n : Int) < 10 := by omega
    have h0' : (0 : Int) ≤ (n : Int) := by omega
    have hd : dig2 n = [UInt8.ofNat (48 + n)] := by unfold dig2; rw [if_pos h1]
    have hu : ((UInt8.ofNat (48 + n)).toNat : Int) = 48 + (n : Int) := by rw [UInt8.toNat_ofNat']; omega
    have hwr : IntKind.u8.wrap (48 + (n : Int)) = 48 + (n : Int) := by rw [IntKind.wrap_u8']; omega
    have hs := Sl.of_new w #[.int .u8 (48 + (n : Int))] 5 (0, 0)
    have hsl : Sl (w.alloc (.cells #[.int .u8 (48 + (n : Int))] 5)) (some ⟨w.heap.size, 0, none⟩) 1 (bvs [UInt8.ofNat (48 + n)]) := by
      have e : bvs [UInt8.ofNat (48 + n)] = [.int .u8 (48 + (n : Int))] := by unfold bvs bv; rw [List.map_cons, List.map_nil, hu]
      rw [e]
      exact hs
    have hcv := run_str_sl (P := Tryd.prog) 35 9 5 _ 1 1 [UInt8.ofNat (48 + n)] Tryd.underlying35 Tryd.underlying5 Tryd.underlying9 hsl
    rw [hd]
    obtain ⟨t, ht⟩ : ∃ t, St [UInt8.ofNat (48 + n)] = t := ⟨_, rfl⟩
    rw [ht] at hcv ⊢
    clear hd hu hs hsl ht
    go_enter Tryd.func21, Tryd.ntmps21
    go_wp2_with fail
    go_ret
    exact ⟨rfl, (Only.refl _ _).alloc _⟩
  · have h1' : (10 : Int) ≤ (n : Int) := by omega
    have h0' : (0 : Int) ≤ (n : Int) := by omega
    have hd : dig2 n = [UInt8.ofNat (48 + n / 10), UInt8.ofNat (48 + n % 10)] := by unfold dig2; rw [if_neg h1]
    have hu : ((UInt8.ofNat (48 + n / 10)).toNat : Int) = 48 + (n : Int) / 10 := by rw [UInt8.toNat_ofNat']; omega
    have hu2 : ((UInt8.ofNat (48 + n % 10)).toNat : Int) = 48 + (n : Int) % 10 := by rw [UInt8.toNat_ofNat']; omega
    obtain ⟨q, hq⟩ : ∃ q : Int, (n : Int) / 10 = q := ⟨_, rfl⟩
    obtain ⟨r, hr⟩ : ∃ r : Int, (n : Int) % 10 = r := ⟨_, rfl⟩
    have hq' : (n : Int).tdiv 10 = q := by rw [Int.tdiv_eq_ediv_of_nonneg (by omega)]; exact hq
    have hr' : (n : Int).tmod 10 = r := by rw [Int.tmod_eq_emod_of_nonneg (by omega)]; exact hr
    have hq9 : 0 ≤ q ∧ q ≤ 9 := by omega
    have hr9 : 0 ≤ r ∧ r ≤ 9 := by omega
    have hwr : IntKind.u8.wrap (48 + q) = 48 + q := by rw [IntKind.wrap_u8']; omega
    have hwr2 : IntKind.u8.wrap (48 + r) = 48 + r := by rw [IntKind.wrap_u8']; omega
    rw [hq] at hu
    rw [hr] at hu2
    have hsl : Sl (w.alloc (.cells #[.int .u8 (48 + q), .int .u8 (48 + r)] 5)) (some ⟨w.heap.size, 0, none⟩) 2 (bvs [UInt8.ofNat (48 + n / 10), UInt8.ofNat (48 + n % 10)]) := by
      have e : bvs [UInt8.ofNat (48 + n / 10), UInt8.ofNat (48 + n % 10)] = [.int .u8 (48 + q), .int .u8 (48 + r)] := by unfold bvs bv; rw [List.map_cons, List.map_cons, List.map_nil, hu, hu2]
      rw [e]
      exact Sl.of_new w #[.int .u8 (48 + q), .int .u8 (48 + r)] 5 (0, 0)
    have hcv := run_str_sl (P := Tryd.prog) 35 9 5 _ 2 2 [UInt8.ofNat (48 + n / 10), UInt8.ofNat (48 + n % 10)] Tryd.underlying35 Tryd.underlying5 Tryd.underlying9 hsl
    rw [hd]
    obtain ⟨t, ht⟩ : ∃ t, St [UInt8.ofNat (48 + n / 10), UInt8.ofNat (48 + n % 10)] = t := ⟨_, rfl⟩
    rw [ht] at hcv ⊢
    clear hd hu hu2 hsl ht hq hr
    go_enter Tryd.func21, Tryd.ntmps21
    go_wp2_with fail
    go_ret
    exact ⟨rfl, (Only.refl _ _).alloc _⟩
end Go.Proofs.YtkcnnbglmckmnaaDoor
namespace Go.Proofs.YtkcnnbglmckmnaaDoor
open Go.RowKit Go.Instr
theorem add_St (a b : List UInt8) : St a ++ St b = St (a ++ b) := by
  apply ByteArray.ext
  simp
end Go.Proofs.YtkcnnbglmckmnaaDoor
namespace Go.Proofs.YtkcnnbglmckmnaaDoor
open Go.RowKit Go.Instr
set_option maxRecDepth 100000 in
set_option maxHeartbeats 2000000 in
theorem sets_out {w : World} (pl uid a b : Int) (h : pl < 1 ∨ 99 < pl ∨ uid < 1 ∨ 99 < uid ∨ a < 1 ∨ 99 < a ∨ b < 1 ∨ 99 < b) : Calls Tryd.prog 9 #[.int .i64 pl, .int .i64 uid, .int .i64 a, .int .i64 b] w fun e w' => e = .returned (.bool true) ∧ Only [] w w' := by
  have ways : pl < 1 ∨ (1 ≤ pl ∧ 99 < pl) ∨ (1 ≤ pl ∧ pl ≤ 99 ∧ uid < 1) ∨ (1 ≤ pl ∧ pl ≤ 99 ∧ 1 ≤ uid ∧ 99 < uid) ∨ (1 ≤ pl ∧ pl ≤ 99 ∧ 1 ≤ uid ∧ uid ≤ 99 ∧ a < 1) ∨ (1 ≤ pl ∧ pl ≤ 99 ∧ 1 ≤ uid ∧ uid ≤ 99 ∧ 1 ≤ a ∧ 99 < a) ∨ (1 ≤ pl ∧ pl ≤ 99 ∧ 1 ≤ uid ∧ uid ≤ 99 ∧ 1 ≤ a ∧ a ≤ 99 ∧ b < 1) ∨ (1 ≤ pl ∧ pl ≤ 99 ∧ 1 ≤ uid ∧ uid ≤ 99 ∧ 1 ≤ a ∧ a ≤ 99 ∧ 1 ≤ b ∧ 99 < b) := by omega
  clear h
  rcases ways with h1 | ⟨h1, h2⟩ | ⟨h1, h2, h3⟩ | ⟨h1, h2, h3, h4⟩ | ⟨h1, h2, h3, h4, h5⟩ | ⟨h1, h2, h3, h4, h5, h6⟩ | ⟨h1, h2, h3, h4, h5, h6, h7⟩ | ⟨h1, h2, h3, h4, h5, h6, h7, h8⟩
  all_goals
    go_enter Tryd.func9, Tryd.ntmps9
    go_wp2_with fail
    go_ret
    exact ⟨rfl, Only.refl _ _⟩
set_option maxRecDepth 100000 in
set_option maxHeartbeats 4000000 in
theorem sets_in {w : World} (hM : MaxF w) (pl uid : Int) (a b : Nat) (hp : 1 ≤ pl) (hp2 : pl ≤ 99) (hu : 1 ≤ uid) (hu2 : uid ≤ 99) (ha : 1 ≤ a) (ha2 : a ≤ 99) (hb : 1 ≤ b) (hb2 : b ≤ 99) :
    Calls Tryd.prog 9 #[.int .i64 pl, .int .i64 uid, .int .i64 (a : Int), .int .i64 (b : Int)] w fun e w' => e = .returned (.bool true) ∧ Only [] w w' := by
  obtain ⟨hme7, hme8⟩ := set_means hp hu ha ha2 hb hb2
  obtain ⟨hpa7, hpa8⟩ := sets_parse ha ha2 hb hb2
  obtain ⟨mn, hmn⟩ : ∃ mn, min (a : Int) (b : Int) = mn := ⟨_, rfl⟩
  obtain ⟨mx, hmx⟩ : ∃ mx, max (a : Int) (b : Int) = mx := ⟨_, rfl⟩
  rw [hmn, hmx] at hme7 hme8
  obtain ⟨B7, hB7⟩ : ∃ B, (decide (mn ≤ pl) && decide (pl ≤ mx)) = B := ⟨_, rfl⟩
  obtain ⟨B8, hB8⟩ : ∃ B, (decide (mn ≤ uid) && decide (uid ≤ mx)) = B := ⟨_, rfl⟩
  rw [hB7] at hme7
  rw [hB8] at hme8
  have hla := (dig2_at ha ha2).2.2.2
  have hlb := (dig2_at hb hb2).2.2.2
  have hsl : (setT a b).length ≤ 5 := by unfold setT; simp; omega
  have hok7 : OkT (atomsT [setT a b]) := ⟨fun t ht => by simp [atomsT] at ht; rw [ht]; show (setT a b).length ≤ _; omega, by simp [atomsT]⟩
  have hok8 : OkT (atomsT [[85, 73, 68], setT a b]) := ⟨fun t ht => by
    simp [atomsT] at ht
    rcases ht with rfl | rfl
    · decide
    · show (setT a b).length ≤ _; omega, by simp [atomsT]⟩
  have hbd7 := parse_bd hok7 hpa7
  have hbd8 := parse_bd hok8 hpa8
  have hna := fun W => num_any a ha2 W
  have hnb := fun W => num_any b hb2 W
  have had1 := fun W => run_string_add_sum (P := Tryd.prog) (w := W) (St (dig2 a)) (St [58]) (by rw [St_size, St_size]; simp; omega)
  have had2 := fun W => run_string_add_sum (P := Tryd.prog) (w := W) (St (dig2 a ++ [58])) (St (dig2 b)) (by rw [St_size, St_size]; simp; omega)
  rw [add_St] at had1 had2
  rw [show (dig2 a ++ [58]) ++ dig2 b = setT a b by unfold setT; simp] at had2
  have HN1 := Lib.hid hna
  have HN2 := Lib.hid hnb
  have HM := Lib.hid hM
  have HPA7 := Lib.hid hpa7
  have HPA8 := Lib.hid hpa8
  have HBD7 := Lib.hid hbd7
  have HBD8 := Lib.hid hbd8
  have HME7 := Lib.hid hme7
  have HME8 := Lib.hid hme8
  have HOK7 := Lib.hid hok7
  have HOK8 := Lib.hid hok8
  have ia1 : (1 : Int) ≤ (a : Int) := by omega
  have ia2 : (a : Int) ≤ 99 := by omega
  have ib1 : (1 : Int) ≤ (b : Int) := by omega
  have ib2 : (b : Int) ≤ 99 := by omega
  clear hna hnb hM hpa7 hpa8 hbd7 hbd8 hme7 hme8 hok7 hok8 hla hlb hsl ha ha2 hb hb2
  go_enter Tryd.func9, Tryd.ntmps9
  go_upto_region 4 with first
    | (go_at_call 21; refine (HN1.out _).mono ?_; rintro e w1 ⟨rfl, O1⟩; have O1 := Lib.hid O1; clear HN1)
    | (go_at_call 21; refine (HN2.out _).mono ?_; rintro e w2 ⟨rfl, O2⟩; have O2 := Lib.hid O2; clear HN2)
  have OW := Lib.hid (O1.out.then O2.out)
  clear O1 O2 had1 had2
  have HS1 : Hid (Sl (w2.alloc (.cells #[.string (St (setT a b))] 9)) (some ⟨w2.heap.size, 0, none⟩) 1 (tvL [setT a b])) := Sl.of_new _ _ _ _
  have HA1 := Lib.hid (atoms_any (c := 1) HS1.out (by omega))
  go_upto_region 5 with first
    | (go_at_call 20; refine HA1.out.mono ?_; rintro e w3 ⟨A3, c3, rfl, hG3, _, O3⟩; have hp3 := fParse_any (c := c3) hG3.reads rfl hG3.cap (by omega) HOK7.out.1; rw [HPA7.out] at hp3; have HP1 := Lib.hid hp3; have O3 := Lib.hid ((OW.out.alloc (.cells #[.string (St (setT a b))] 9)).then O3); clear hp3 hG3 HA1)
    | (go_at_call 11; refine HP1.out.mono ?_; intro e wp1 hPR; obtain ⟨kd1, n1, s1, t1, SA1, ns1, sc1, KA1, nk1, kc1, er1, rfl, O, _, HKY1, her⟩ := hPR.plain; obtain rfl : er1 = 0 := her.out; have OP1 := Lib.hid O; skip; clear HP1 hPR her O)
  have K10 := Lib.hid (Bk.new wp1 27 #[.int .i64 kd1, .int .i64 n1, .string s1, .string t1, .slice SA1 ns1 sc1, .slice KA1 nk1 kc1])
  have O10 := Lib.hid ((O3.out.then OP1.out).alloc (.cells #[.int .i64 kd1, .int .i64 n1, .string s1, .string t1, .slice SA1 ns1 sc1, .slice KA1 nk1 kc1] 27))
  have KY10 := Lib.hid (HKY1.out.keep ((Only.refl _ _).alloc (.cells #[.int .i64 kd1, .int .i64 n1, .string s1, .string t1, .slice SA1 ns1 sc1, .slice KA1 nk1 kc1] 27)))
  clear HKY1 O3 OP1
  obtain ⟨g10, hg10⟩ : ∃ g, wp1.heap.size = g := ⟨_, rfl⟩
  rw [hg10] at K10
  rw [hg10]
  obtain ⟨W4, hW4⟩ : ∃ W4, wp1.alloc (.cells #[.int .i64 kd1, .int .i64 n1, .string s1, .string t1, .slice SA1 ns1 sc1, .slice KA1 nk1 kc1] 27) = W4 := ⟨_, rfl⟩
  rw [hW4] at K10 O10 KY10 ⊢
  clear hW4 hg10
  have HS2 : Hid (Sl (W4.alloc (.cells #[.string ⟨#[85, 73, 68]⟩, .string (St (setT a b))] 9)) (some ⟨W4.heap.size, 0, none⟩) 2 (tvL [[85, 73, 68], setT a b])) := Sl.of_new _ _ _ _
  have HA2 := Lib.hid (atoms_any (c := 2) HS2.out (by omega))
  go_upto_region 6 with first
    | (go_at_call 20; refine HA2.out.mono ?_; rintro e w5 ⟨A5, c5, rfl, hG5, _, O5⟩; have hp5 := fParse_any (c := c5) hG5.reads rfl hG5.cap (by omega) HOK8.out.1; rw [HPA8.out] at hp5; have HP2 := Lib.hid hp5; have O5 := Lib.hid (((Only.refl [] W4).alloc (.cells #[.string ⟨#[85, 73, 68]⟩, .string (St (setT a b))] 9)).then O5); clear hp5 hG5 HA2)
    | (go_at_call 11; refine HP2.out.mono ?_; intro e wp2 hPR; obtain ⟨kd2, n2, s2, t2, SA2, ns2, sc2, KA2, nk2, kc2, er2, rfl, O, _, HKY2, her⟩ := hPR.plain; obtain rfl : er2 = 0 := her.out; have OP2 := Lib.hid O; skip; clear HP2 hPR her O)
  have O6 := Lib.hid ((O5.out.then OP2.out).alloc (.cells #[.int .i64 kd2, .int .i64 n2, .string s2, .string t2, .slice SA2 ns2 sc2, .slice KA2 nk2 kc2] 27))
  have K12 := Lib.hid (Bk.new wp2 27 #[.int .i64 kd2, .int .i64 n2, .string s2, .string t2, .slice SA2 ns2 sc2, .slice KA2 nk2 kc2])
  have K11 := Lib.hid (K10.out.only O6.out (fun hm => nomatch hm))
  have KY12 := Lib.hid (HKY2.out.keep ((Only.refl _ _).alloc (.cells #[.int .i64 kd2, .int .i64 n2, .string s2, .string t2, .slice SA2 ns2 sc2, .slice KA2 nk2 kc2] 27)))
  have KY11 := Lib.hid (KY10.out.keep O6.out)
  have O11 := Lib.hid (O10.out.then O6.out)
  clear HKY2 O5 OP2 K10 KY10 O10 O6
  obtain ⟨g12, hg12⟩ : ∃ g, wp2.heap.size = g := ⟨_, rfl⟩
  rw [hg12] at K12
  rw [hg12]
  obtain ⟨W6, hW6⟩ : ∃ W6, wp2.alloc (.cells #[.int .i64 kd2, .int .i64 n2, .string s2, .string t2, .slice SA2 ns2 sc2, .slice KA2 nk2 kc2] 27) = W6 := ⟨_, rfl⟩
  rw [hW6] at K12 K11 KY12 KY11 O11 ⊢
  clear hW6 hg12
  have oM : Only [] W6 (W6.alloc (.cells #[.int .i64 uid, .int .i64 0, .int .i64 0, .slice none 0 0] 37)) := (Only.refl _ _).alloc _
  have KM := Bk.new W6 37 #[.int .i64 uid, .int .i64 0, .int .i64 0, .slice none 0 0]
  have HC7 := match_any (m := ⟨uid, 0, 0, []⟩) (pl := pl) (la := 99) (lu := 99) _ _ _ _ none 0 0 (KY11.out.keep oM) (Bt.none_ _) (by omega) (fun x hx => nomatch hx) ((HM.out.keep O11.out).keep oM) HBD7.out
  rw [show kz (some (setK 7 a b)) = setK 7 a b from rfl, HME7.out] at HC7
  have HC7 := Lib.hid HC7
  have K11M := K11.out.only oM (fun hm => nomatch hm)
  have K12M := K12.out.only oM (fun hm => nomatch hm)
  obtain ⟨⟨p0, p1, p2, p3, p4, p5⟩, _⟩ := K11M.six
  have OM := Lib.hid oM
  have KM := Lib.hid KM
  have K12M := Lib.hid K12M
  have KY12M := Lib.hid (KY12.out.keep oM)
  have hlt11 := K11M.lt
  obtain ⟨m0, m1, m2, m3⟩ := KM.out.four
  go_upto_region 7 with fail
  obtain ⟨W7, hW7⟩ : ∃ W7, W6.alloc (.cells #[.int .i64 uid, .int .i64 0, .int .i64 0, .slice none 0 0] 37) = W7 := ⟨_, rfl⟩
  rw [hW7] at HC7 OM KM K12M KY12M m0 m1 m2 m3 p0 p1 p2 p3 p4 p5 hlt11 ⊢
  clear K11M oM hW7
  by_cases p1 : mn ≤ pl <;> by_cases u1 : mn ≤ uid
  · skip
    have d7 : decide (mn ≤ pl) = true := decide_eq_true p1
    have d8 : decide (mn ≤ uid) = true := decide_eq_true u1
    rw [d7, Bool.true_and] at hB7
    rw [d8, Bool.true_and] at hB8
    go_wp2_with first
      | (go_at_call 16; refine HC7.out.mono ?_; rintro e w8 ⟨rfl, O8⟩; obtain ⟨x0, x1, x2, x3⟩ := (KM.out.only O8 (fun hm => nomatch hm)).four; obtain ⟨⟨y0, y1, y2, y3, y4, y5⟩, _⟩ := (K12M.out.only O8 (fun hm => nomatch hm)).six; have hc8 := match_any (m := ⟨uid, 0, 0, []⟩) (pl := pl) (la := 99) (lu := 99) _ _ _ _ none 0 0 (KY12M.out.keep O8) (Bt.none_ _) (by omega) (fun x hx => nomatch hx) (((HM.out.keep O11.out).keep OM.out).keep O8) HBD8.out; rw [show kz (some (setK 8 a b)) = setK 8 a b from rfl, HME8.out] at hc8; have HC8 := Lib.hid hc8; have O8 := Lib.hid O8; clear HC7 hc8 m0 m1 m2 m3 p0 p1 p2 p3 p4 p5)
      | (go_at_call 16; refine HC8.out.mono ?_; rintro e w9 ⟨rfl, O9⟩; have HKN := Lib.hid (known_any w9 ((((HM.out.keep O11.out).keep OM.out).keep O8.out).keep O9)); have O9 := Lib.hid O9; clear HC8)
      | (go_at_call 14; refine HKN.out.mono ?_; rintro e wz ⟨rfl, OZ⟩; have OZ := Lib.hid OZ; clear HKN)
    all_goals (go_ret; exact ⟨rfl, (((O11.out.then OM.out).then O8.out).then O9.out).then OZ.out⟩)
  · skip
    have d7 : decide (mn ≤ pl) = true := decide_eq_true p1
    have d8 : decide (mn ≤ uid) = false := decide_eq_false u1
    rw [d7, Bool.true_and] at hB7
    rw [d8, Bool.false_and] at hB8
    subst hB8
    have u1x : uid < mn := by omega
    go_wp2_with first
      | (go_at_call 16; refine HC7.out.mono ?_; rintro e w8 ⟨rfl, O8⟩; obtain ⟨x0, x1, x2, x3⟩ := (KM.out.only O8 (fun hm => nomatch hm)).four; obtain ⟨⟨y0, y1, y2, y3, y4, y5⟩, _⟩ := (K12M.out.only O8 (fun hm => nomatch hm)).six; have hc8 := match_any (m := ⟨uid, 0, 0, []⟩) (pl := pl) (la := 99) (lu := 99) _ _ _ _ none 0 0 (KY12M.out.keep O8) (Bt.none_ _) (by omega) (fun x hx => nomatch hx) (((HM.out.keep O11.out).keep OM.out).keep O8) HBD8.out; rw [show kz (some (setK 8 a b)) = setK 8 a b from rfl, HME8.out] at hc8; have HC8 := Lib.hid hc8; have O8 := Lib.hid O8; clear HC7 hc8 m0 m1 m2 m3 p0 p1 p2 p3 p4 p5)
      | (go_at_call 16; refine HC8.out.mono ?_; rintro e w9 ⟨rfl, O9⟩; have HKN := Lib.hid (known_any w9 ((((HM.out.keep O11.out).keep OM.out).keep O8.out).keep O9)); have O9 := Lib.hid O9; clear HC8)
      | (go_at_call 14; refine HKN.out.mono ?_; rintro e wz ⟨rfl, OZ⟩; have OZ := Lib.hid OZ; clear HKN)
    all_goals (go_ret; exact ⟨rfl, (((O11.out.then OM.out).then O8.out).then O9.out).then OZ.out⟩)
  · skip
    have d7 : decide (mn ≤ pl) = false := decide_eq_false p1
    have d8 : decide (mn ≤ uid) = true := decide_eq_true u1
    rw [d7, Bool.false_and] at hB7
    rw [d8, Bool.true_and] at hB8
    subst hB7
    have p1x : pl < mn := by omega
    go_wp2_with first
      | (go_at_call 16; refine HC7.out.mono ?_; rintro e w8 ⟨rfl, O8⟩; obtain ⟨x0, x1, x2, x3⟩ := (KM.out.only O8 (fun hm => nomatch hm)).four; obtain ⟨⟨y0, y1, y2, y3, y4, y5⟩, _⟩ := (K12M.out.only O8 (fun hm => nomatch hm)).six; have hc8 := match_any (m := ⟨uid, 0, 0, []⟩) (pl := pl) (la := 99) (lu := 99) _ _ _ _ none 0 0 (KY12M.out.keep O8) (Bt.none_ _) (by omega) (fun x hx => nomatch hx) (((HM.out.keep O11.out).keep OM.out).keep O8) HBD8.out; rw [show kz (some (setK 8 a b)) = setK 8 a b from rfl, HME8.out] at hc8; have HC8 := Lib.hid hc8; have O8 := Lib.hid O8; clear HC7 hc8 m0 m1 m2 m3 p0 p1 p2 p3 p4 p5)
      | (go_at_call 16; refine HC8.out.mono ?_; rintro e w9 ⟨rfl, O9⟩; have HKN := Lib.hid (known_any w9 ((((HM.out.keep O11.out).keep OM.out).keep O8.out).keep O9)); have O9 := Lib.hid O9; clear HC8)
      | (go_at_call 14; refine HKN.out.mono ?_; rintro e wz ⟨rfl, OZ⟩; have OZ := Lib.hid OZ; clear HKN)
    all_goals (go_ret; exact ⟨rfl, (((O11.out.then OM.out).then O8.out).then O9.out).then OZ.out⟩)
  · skip
    have d7 : decide (mn ≤ pl) = false := decide_eq_false p1
    have d8 : decide (mn ≤ uid) = false := decide_eq_false u1
    rw [d7, Bool.false_and] at hB7
    rw [d8, Bool.false_and] at hB8
    subst hB7
    have p1x : pl < mn := by omega
    subst hB8
    have u1x : uid < mn := by omega
    go_wp2_with first
      | (go_at_call 16; refine HC7.out.mono ?_; rintro e w8 ⟨rfl, O8⟩; obtain ⟨x0, x1, x2, x3⟩ := (KM.out.only O8 (fun hm => nomatch hm)).four; obtain ⟨⟨y0, y1, y2, y3, y4, y5⟩, _⟩ := (K12M.out.only O8 (fun hm => nomatch hm)).six; have hc8 := match_any (m := ⟨uid, 0, 0, []⟩) (pl := pl) (la := 99) (lu := 99) _ _ _ _ none 0 0 (KY12M.out.keep O8) (Bt.none_ _) (by omega) (fun x hx => nomatch hx) (((HM.out.keep O11.out).keep OM.out).keep O8) HBD8.out; rw [show kz (some (setK 8 a b)) = setK 8 a b from rfl, HME8.out] at hc8; have HC8 := Lib.hid hc8; have O8 := Lib.hid O8; clear HC7 hc8 m0 m1 m2 m3 p0 p1 p2 p3 p4 p5)
      | (go_at_call 16; refine HC8.out.mono ?_; rintro e w9 ⟨rfl, O9⟩; have HKN := Lib.hid (known_any w9 ((((HM.out.keep O11.out).keep OM.out).keep O8.out).keep O9)); have O9 := Lib.hid O9; clear HC8)
      | (go_at_call 14; refine HKN.out.mono ?_; rintro e wz ⟨rfl, OZ⟩; have OZ := Lib.hid OZ; clear HKN)
    all_goals (go_ret; exact ⟨rfl, (((O11.out.then OM.out).then O8.out).then O9.out).then OZ.out⟩)
theorem sets_any {w : World} (hM : MaxF w) (pl uid a b : Int) : Calls Tryd.prog 9 #[.int .i64 pl, .int .i64 uid, .int .i64 a, .int .i64 b] w fun e w' => e = .returned (.bool true) ∧ Only [] w w' := by
  by_cases h : pl < 1 ∨ 99 < pl ∨ uid < 1 ∨ 99 < uid ∨ a < 1 ∨ 99 < a ∨ b < 1 ∨ 99 < b
  · exact sets_out pl uid a b h
  · obtain ⟨x, rfl⟩ : ∃ n : Nat, a = (n : Int) := ⟨a.toNat, by omega⟩
    obtain ⟨y, rfl⟩ : ∃ n : Nat, b = (n : Int) := ⟨b.toNat, by omega⟩
    exact sets_in hM pl uid x y (by omega) (by omega) (by omega) (by omega) (by omega) (by omega) (by omega) (by omega)
end Go.Proofs.YtkcnnbglmckmnaaDoor
