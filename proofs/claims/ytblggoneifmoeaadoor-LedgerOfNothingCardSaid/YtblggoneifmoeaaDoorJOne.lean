import Derived.Test.YtblggoneifmoeaaDoorReader3
import Derived.Test.YtblggoneifmoeaaDoorWriter2
import Derived.Test.YtblggoneifmoeaaDoorOwnMore
import Derived.Handy
import Derived.Deep.DeepMust
import Derived.Test.YtblggoneifmoeaaDoorFScan
import Derived.Test.YtblggoneifmoeaaDoorKSave
import Derived.Test.YtblggoneifmoeaaDoorQuiet
import Derived.Deep.RegionHeld3
import Derived.Test.YtblggoneifmoeaaDoorDClone
import Derived.Deep.RegionLaw
namespace Go.Proofs.YtblggoneifmoeaaDoor
theorem nat_ne (x : Nat) (h : x ≠ 0) : ((x : Int) != 0) = true := by rw [bne_iff_ne]; omega
end Go.Proofs.YtblggoneifmoeaaDoor
/-
  ledger: a number and bytes in one row, as plain data.
-/
namespace Go.Proofs.YtblggoneifmoeaaDoor

/-! ### A number and bytes in a row -/
def numd (k : Nat) (p : List UInt8) : List UInt8 := enc k ++ (enc p.length ++ p)
def pV (b : List UInt8) : Nat := takeV false b
def pRow (b : List UInt8) : List UInt8 := rowTook (takeBad false b) (takeRest false b)
def pOk (b : List UInt8) : Bool := !rowBad (takeBad false b) (takeRest false b) && decide (rowRest (takeBad false b) (takeRest false b) = [])
/-- What a row is, if it is a number and bytes, and nothing else. -/
def prsR (b : List UInt8) : Option (Nat × List UInt8) := if pOk b = true then (if 1099511627776 < pV b then none else some (pV b, pRow b)) else none
theorem take_enc (k : Nat) (r : List UInt8) (h : k ≤ 4611686018427387904) : takeV false (enc k ++ r) = k ∧ takeBad false (enc k ++ r) = false ∧ takeRest false (enc k ++ r) = r := by
  have hd := dec_enc k r h
  have hv : decV (enc k ++ r) = k := by unfold decV; rw [hd]; rfl
  have hn : decN (enc k ++ r) = (enc k).length := by unfold decN; rw [hd]; rfl
  have hp := enc_len_pos k
  have hb : takeBad false (enc k ++ r) = false := by
    unfold takeBad
    rw [hn]
    simp only [Bool.false_or, decide_eq_false_iff_not]
    omega
  refine ⟨by unfold takeV; simpa using hv, hb, ?_⟩
  unfold takeRest
  rw [hb, hn]
  simp
theorem prsR_numd {k : Nat} {p : List UInt8} (hk : k ≤ 1099511627776) (hp : p.length ≤ 1099511627776) : prsR (numd k p) = some (k, p) := by
  obtain ⟨a1, a2, a3⟩ := take_enc k (enc p.length ++ p) (by omega)
  obtain ⟨b1, b2, b3⟩ := take_enc p.length p (by omega)
  have hbad : rawBad false p (p.length : Int) = false := by unfold rawBad; simp
  obtain ⟨c1, c2⟩ := raw_of_good hbad
  have e1 : pV (numd k p) = k := a1
  have e2 : pRow (numd k p) = p := by
    unfold pRow rowTook numd
    rw [a2, a3, b1, b2, b3, c1]
    simp
  have e3 : pOk (numd k p) = true := by
    unfold pOk rowBad rowRest numd
    rw [a2, a3, b1, b2, b3, hbad, c2]
    simp
  unfold prsR
  rw [e1, e2, e3, if_pos rfl, if_neg (by omega)]
theorem numd_len {k : Nat} {p : List UInt8} (hk : k ≤ 1099511627776) (hp : p.length ≤ 1099511627776) : (numd k p).length ≤ p.length + 18 := by
  unfold numd
  have h1 := enc_len9 (v := k) (by omega)
  have h2 := enc_len9 (v := p.length) (by omega)
  rw [List.length_append, List.length_append]
  omega

end Go.Proofs.YtblggoneifmoeaaDoor
/-
  ledger's numbered and parse.
-/
namespace Go.Proofs.YtblggoneifmoeaaDoor
open Go.RowKit
theorem RwS.oneP {S : Nat → Prop} {w : World} {g : Nat} {t : TypeId} {A : Option Addr} {c : Nat} {l : List UInt8} (h : Bk w g t #[.slice A l.length c]) (hs : Sl w A l.length (bvs l)) (hg : S g) (hA : 0 < l.length → ∀ ad, A = some ad → S ad.block) : RwS S w (some ⟨g, 0, none⟩) 1 [l] :=
  ⟨rfl, _, Sl.of_bk h, fun _ ad e => by injection e with e; subst e; exact hg, fun i l' hi => by
    match i, hi with
    | 0, hi => simp at hi; subst hi; exact ⟨A, c, by simp, hs, hA⟩⟩
set_option maxHeartbeats 800000 in
set_option maxRecDepth 100000 in
theorem numbered_any (k : Nat) (A : Option Addr) (n c : Nat) (p : List UInt8) (w : World) (hk : k ≤ 1099511627776) (hs : Sl w A n (bvs p)) (hn : n ≤ 1048576) :
    Calls Tryd.prog 27 #[.int .i64 (k : Int), .slice A n c] w (Fresh w (numd k p)) := by
  have hl : p.length = n := by simpa using hs.len
  have HK : Hid (encs [(k : Int)] = enc k) := by
    show _ = _
    unfold encs clamp
    simp
    rw [if_neg (by omega), if_neg (by omega)]
  have HR : Hid (rowsEnc [p] = enc p.length ++ p) := by
    show _ = _
    unfold rowsEnc rowEnc
    simp
  have hql := numd_len (k := k) (p := p) hk (by omega)
  have HQ : Hid (enc k ++ rowsEnc [p] = numd k p) := by
    show _ = _
    rw [HR.out]
    rfl
  obtain ⟨q, hq⟩ : ∃ q, numd k p = q := ⟨_, rfl⟩
  rw [hq] at HQ hql ⊢
  clear hq
  have h9 := enc_len9 (v := k) (by omega)
  have h9' := enc_len9 (v := p.length) (by omega)
  go_enter Tryd.func27, Tryd.ntmps27
  go_wp2_with fail
  refine (wnums_any w.heap.size none 0 [] (some ⟨w.heap.size + 1, 0, none⟩) 1 1 [(k : Int)] _ (by exact (Wr.new w).keep ((Only.refl _ _).alloc _)) (by have h := Sl.of_bk (Bk.new (w.alloc (.cells #[.slice none 0 0] 81)) 3 #[.int .i64 (k : Int)]); simpa [ivs] using h) (by intro x hx; simp at hx; omega) (by simp) (by omega) (by simp)).mono ?_
  rintro e w1 ⟨rfl, A1, c1, HW1, HO1, HB1⟩
  rw [HK.out, List.nil_append] at HW1
  have hz1 := HO1.size
  simp at hz1
  have Q1 : Only [] w w1 := (((Only.refl _ _).alloc _).alloc _).trans HO1 (fun x hx => by simp at hx; exact .inr (by omega))
  have hb1 : ∀ x ∈ blks A1, w.heap.size + 1 < x := fun x hx => by
    rcases HB1 x hx with h | h
    · cases h
    · simp at h; omega
  go_wp2_with fail
  refine (wbytes_any w.heap.size A1 c1 _ (some ⟨w1.heap.size, 0, none⟩) 1 1 [p] _ (fun x => x ≠ w.heap.size ∧ x ∉ blks A1) (HW1.keep ((Only.refl _ _).alloc _))
    (by subst hl; exact RwS.oneP (Bk.new _ _ _) ((hs.keep Q1).alloc _) ⟨by omega, fun hm => by have := HW1.2.lt hm; omega⟩ (fun hp ad e => by have := hs.lt hp ad e; exact ⟨by omega, fun hm => by have := hb1 _ hm; omega⟩))
    (fun x hx hm => by rcases List.mem_cons.1 hm with h | h; exact hx.1 h; exact hx.2 h) (by omega) (by unfold rowsLen; rw [HR.out, List.length_append]; omega)).mono ?_
  rintro e w2 ⟨rfl, A2, c2, HW2, HO2, HB2⟩
  rw [HQ.out] at HW2
  have Q2 : Only [] w w2 := (Q1.alloc _).trans HO2 (fun x hx => by
    rcases List.mem_cons.1 hx with h | h
    · exact .inr (by omega)
    · exact .inr (by have := hb1 x h; omega))
  go_wp2_with fail
  refine (out_any w.heap.size A2 c2 _ _ HW2 (by omega)).mono ?_
  rintro e w3 ⟨A3, c3, rfl, HV3, HO3, HB3⟩
  go_wp2_with fail
  go_ret
  exact ⟨A3, c3, rfl, HV3, Q2.trans HO3 (fun _ hx => by cases hx), fun x hx => Nat.le_trans Q2.size (HB3 x hx)⟩

/-- What parse answers. -/
def Parsed (b : List UInt8) (w : World) (e : Ending) (w' : World) : Prop :=
  match prsR b with
  | none => e = .returned (.tuple #[.int .i64 0, .slice none 0 0, .bool false]) ∧ Only [] w w'
  | some (k, p) => ∃ A c, e = .returned (.tuple #[.int .i64 (k : Int), .slice A p.length c, .bool true]) ∧ Own w' 5 A p.length c (bvs p) ∧ Only [] w w' ∧ ∀ x ∈ blks A, w.heap.size ≤ x
theorem pOk_eq (b : List UInt8) : pOk b = (!rowBad (takeBad false b) (takeRest false b) && decide (rowRest (takeBad false b) (takeRest false b) = [])) := rfl
set_option maxHeartbeats 800000 in
set_option maxRecDepth 100000 in
theorem parse_any (A : Option Addr) (n c : Nat) (b : List UInt8) (w : World) (hs : Sl w A n (bvs b)) (hn : n ≤ 1000000000000) :
    Calls Tryd.prog 36 #[.slice A n c] w (Parsed b w) := by
  have hk : pV b ≤ 4611686018427387904 := decV_le b
  have HN := Lib.hid (newReader_any w A n c b hs hn)
  have HX := Lib.hid (fun (W : World) (g kb : Nat) (A : Option Addr) (c : Nat) (h : Rd W g kb A c false b) => num_any h)
  have HY := Lib.hid (fun (W : World) (g kb : Nat) (A : Option Addr) (c : Nat) (h : Rd W g kb A c (takeBad false b) (takeRest false b)) => rbytes_any h)
  have HZ := Lib.hid (fun (W : World) (g kb : Nat) (A : Option Addr) (c : Nat) (h : Rd W g kb A c (rowBad (takeBad false b) (takeRest false b)) (rowRest (takeBad false b) (takeRest false b))) => whole_any h)
  have HE := pOk_eq b
  rw [← HE] at HZ
  have HP : Hid (∀ e w', Parsed b w e w' ↔ match prsR b with
    | none => e = .returned (.tuple #[.int .i64 0, .slice none 0 0, .bool false]) ∧ Only [] w w'
    | some (k, p) => ∃ A c, e = .returned (.tuple #[.int .i64 (k : Int), .slice A p.length c, .bool true]) ∧ Own w' 5 A p.length c (bvs p) ∧ Only [] w w' ∧ ∀ x ∈ blks A, w.heap.size ≤ x) := fun e w' => Iff.rfl
  have e1 : takeV false b = pV b := rfl
  have e2 : rowTook (takeBad false b) (takeRest false b) = pRow b := rfl
  rw [e1] at HX
  rw [e2] at HY
  have HPN : Hid (pOk b = false → prsR b = none) := fun h => by unfold prsR; rw [h]; rfl
  have HPB : Hid (pOk b = true → 1099511627776 < pV b → prsR b = none) := fun h h' => by unfold prsR; rw [if_pos h, if_pos h']
  have HPS : Hid (pOk b = true → ¬1099511627776 < pV b → prsR b = some (pV b, pRow b)) := fun h h' => by unfold prsR; rw [if_pos h, if_neg h']
  clear HE e1 e2 hs hn
  obtain ⟨v, hv⟩ : ∃ v, pV b = v := ⟨_, rfl⟩
  obtain ⟨r, hr⟩ : ∃ r, pRow b = r := ⟨_, rfl⟩
  obtain ⟨o, ho⟩ : ∃ o, pOk b = o := ⟨_, rfl⟩
  rw [hv, ho] at HPB HPS
  rw [hr] at HPS HY
  rw [hv] at HX hk
  rw [ho] at HPN HZ
  clear hv hr ho
  have walk : ∀ (Q : Ending → World → Prop), (∀ w', Only [] w w' → (o = false ∨ 1099511627776 < v) → Q (.returned (.tuple #[.int .i64 0, .slice none 0 0, .bool false])) w') →
      (∀ w' A c, Only [] w w' → (∀ x ∈ blks A, w.heap.size ≤ x) → Own w' 5 A r.length c (bvs r) → o = true → ¬1099511627776 < v → Q (.returned (.tuple #[.int .i64 (v : Int), .slice A r.length c, .bool true])) w') →
      Calls Tryd.prog 36 #[.slice A n c] w Q := by
    intro Q h1 h2
    have H1 := Lib.hid h1
    have H2 := Lib.hid h2
    clear h1 h2 HPN HPB HPS HP
    cases o
    · go_enter Tryd.func36, Tryd.ntmps36
      go_wp2_with (first
        | (go_at_call 55; refine (HZ.out _ _ _ _ _ R3).mono ?_; rintro e w4 ⟨rfl, rfl⟩)
        | (go_at_call 54; refine (HY.out _ _ _ _ _ R2).mono ?_; rintro e w3 ⟨P, cp, A3, c3, rfl, V3, B3, R3, O3⟩)
        | (go_at_call 53; refine (HX.out _ _ _ _ _ R1).mono ?_; rintro e w2 ⟨rfl, A2, c2, R2, O2⟩)
        | (go_at_call 52; refine HN.out.mono ?_; clear HN; rintro e w1 ⟨g, kb, A1, c1, rfl, hg, hkb, R1, O1⟩))
      exact H1.out _ ((O1.trans O2 (fun x hx => by simp at hx; exact .inr (by omega))).trans O3 (fun x hx => by simp at hx; exact .inr (by omega))) (by simp)
    · by_cases hb : 1099511627776 < v
      · go_enter Tryd.func36, Tryd.ntmps36
        go_wp2_with (first
          | (go_at_call 55; refine (HZ.out _ _ _ _ _ R3).mono ?_; rintro e w4 ⟨rfl, rfl⟩)
          | (go_at_call 54; refine (HY.out _ _ _ _ _ R2).mono ?_; rintro e w3 ⟨P, cp, A3, c3, rfl, V3, B3, R3, O3⟩)
          | (go_at_call 53; refine (HX.out _ _ _ _ _ R1).mono ?_; rintro e w2 ⟨rfl, A2, c2, R2, O2⟩)
          | (go_at_call 52; refine HN.out.mono ?_; clear HN; rintro e w1 ⟨g, kb, A1, c1, rfl, hg, hkb, R1, O1⟩))
        exact H1.out _ ((O1.trans O2 (fun x hx => by simp at hx; exact .inr (by omega))).trans O3 (fun x hx => by simp at hx; exact .inr (by omega))) (.inr hb)
      · go_enter Tryd.func36, Tryd.ntmps36
        go_wp2_with (first
          | (go_at_call 55; refine (HZ.out _ _ _ _ _ R3).mono ?_; rintro e w4 ⟨rfl, rfl⟩)
          | (go_at_call 54; refine (HY.out _ _ _ _ _ R2).mono ?_; rintro e w3 ⟨P, cp, A3, c3, rfl, V3, B3, R3, O3⟩)
          | (go_at_call 53; refine (HX.out _ _ _ _ _ R1).mono ?_; rintro e w2 ⟨rfl, A2, c2, R2, O2⟩)
          | (go_at_call 52; refine HN.out.mono ?_; clear HN; rintro e w1 ⟨g, kb, A1, c1, rfl, hg, hkb, R1, O1⟩))
        have Q2 : Only [] w w2 := O1.trans O2 (fun x hx => by simp at hx; exact .inr (by omega))
        exact H2.out _ _ _ (Q2.trans O3 (fun x hx => by simp at hx; exact .inr (by omega))) (fun x hx => Nat.le_trans Q2.size (B3 x hx)) V3 (by simp) hb
  refine walk _ (fun w' hO hd => (HP.out _ _).2 ?_) (fun w' A c hO hB hV ho hb => (HP.out _ _).2 ?_)
  · have hz : prsR b = none := by
      cases ho : o
      · exact HPN.out ho
      · rcases hd with hd | hd
        · rw [hd] at ho; cases ho
        · exact HPB.out ho hd
    rw [hz]
    exact ⟨rfl, hO⟩
  · rw [HPS.out ho hb]
    exact ⟨A, c, rfl, hV, hO, hB⟩
end Go.Proofs.YtblggoneifmoeaaDoor
/-
  ledger as plain data: a number and bytes in a row, what a log tells, what each call does to a disk. Nothing of the program stands here.
-/
namespace Go.Proofs.YtblggoneifmoeaaDoor

/-! ### What a log tells -/
/-- The number of the record ahead (0: none), the entries above the image. -/
abbrev Took := Nat × List (List UInt8)
def take1 (base : Nat) (t : Took) (p : List UInt8) : Option Took :=
  match prsR p with
  | none => none
  | some (k, e) => if k < 1 ∨ (0 < t.1 ∧ k ≠ t.1 + 1) then none else if k ≤ base then some (k, t.2) else if k ≠ base + t.2.length + 1 then none else some (k, t.2 ++ [e])
def takes (base : Nat) : Took → List (List UInt8) → Option Took
  | t, [] => some t
  | t, p :: r => match take1 base t p with
    | none => none
    | some t' => takes base t' r
/-- The entries of a log, how many bytes of it are whole. -/
def logged (base : Nat) (b : List UInt8) : Option (List (List UInt8)) := (takes base (0, []) (scan b).1).map (·.2)

/-! ### What each call does -/
structure LS where
  base : Nat
  data : List UInt8
  es : List (List UInt8)
  dead : Bool
def LS.last (L : LS) : Nat := L.base + L.es.length
/-- A file is taken away, if it is there. -/
def rmE (S : St) (s : ByteArray) : Nat := if readE S s = 7 then 0 else errF S s
def rmS (S : St) (s : ByteArray) : St := if readE S s = 7 then S else removeS S s
/-- A record laid, and synced. -/
def layE (S : St) (s : ByteArray) (r : List UInt8) : Nat := if errA S s r = 0 then errF (appendS S s r) s else errA S s r
def layS (S : St) (s : ByteArray) (r : List UInt8) : St := if errA S s r = 0 then syncS (appendS S s r) s else S
/-- Append: what it answers, what it leaves. -/
def appE (S : St) (log : ByteArray) (L : LS) (p : List UInt8) : Nat :=
  if L.dead then 9 else if 65536 < p.length ∨ 1099511627776 < L.last + 1 then 5 else layE S log (record (numd (L.last + 1) p))
def appS (S : St) (log : ByteArray) (L : LS) (p : List UInt8) : St :=
  if L.dead then S else if 65536 < p.length ∨ 1099511627776 < L.last + 1 then S else layS S log (record (numd (L.last + 1) p))
def appL (S : St) (log : ByteArray) (L : LS) (p : List UInt8) : LS :=
  if L.dead then L else if 65536 < p.length ∨ 1099511627776 < L.last + 1 then L else if layE S log (record (numd (L.last + 1) p)) = 0 then { L with es := L.es ++ [p] } else { L with dead := true }
/-- Write. -/
def wrE (S : St) (img log : ByteArray) (L : LS) (i : Int) (p : List UInt8) : Nat :=
  if L.dead then 9 else if i < (L.last : Int) ∨ 1099511627776 < i then 1 else if 524288 < p.length then 5 else
    if saveE S img (numd i.toNat p) = 0 then rmE (saveS S img (numd i.toNat p)) log else saveE S img (numd i.toNat p)
def wrS (S : St) (img log : ByteArray) (L : LS) (i : Int) (p : List UInt8) : St :=
  if L.dead then S else if i < (L.last : Int) ∨ 1099511627776 < i then S else if 524288 < p.length then S else
    if saveE S img (numd i.toNat p) = 0 then rmS (saveS S img (numd i.toNat p)) log else saveS S img (numd i.toNat p)
def wrL (S : St) (img log : ByteArray) (L : LS) (i : Int) (p : List UInt8) : LS :=
  if L.dead then L else if i < (L.last : Int) ∨ 1099511627776 < i then L else if 524288 < p.length then L else
    if saveE S img (numd i.toNat p) = 0 ∧ rmE (saveS S img (numd i.toNat p)) log = 0 then ⟨i.toNat, p, [], false⟩ else { L with dead := true }
/-- Drop. -/
def drE (S : St) (img log : ByteArray) (L : LS) : Nat := if L.dead then 9 else if rmE S log = 0 then rmE (rmS S log) img else rmE S log
def drS (S : St) (img log : ByteArray) (L : LS) : St := if L.dead then S else if rmE S log = 0 then rmS (rmS S log) img else rmS S log
/-- The image, read: an error, its number, its data. -/
def imgE (S : St) (img : ByteArray) : Nat := if loadE S img = 7 then 0 else if loadE S img = 0 then (if (prsR (loadD S img)).isSome then 0 else 3) else loadE S img
def imgV (S : St) (img : ByteArray) : Nat × List UInt8 := if loadE S img = 0 then (prsR (loadD S img)).getD (0, []) else (0, [])
/-- Does the log stay at that size behind a crash? -/
def lastsB (S : St) (log : ByteArray) (n : Nat) : Bool := decide ((readD (crashS (copyS S) 0) log).length = n)
/-- What is left of a log of that size. -/
def tidyE (S : St) (log : ByteArray) (es : List (List UInt8)) (size whole : Nat) : Nat :=
  let e1 := if whole < size then errT S log whole else 0
  let S1 := if whole < size then truncS S log whole else S
  if e1 ≠ 0 then e1 else
  let e2 := if whole < size ∨ (es ≠ [] ∧ lastsB S1 log whole = false) then errF S1 log else 0
  let S2 := if whole < size ∨ (es ≠ [] ∧ lastsB S1 log whole = false) then syncS S1 log else S1
  if e2 ≠ 0 then e2 else if es = [] then errF S2 log else 0
def tidyS (S : St) (log : ByteArray) (es : List (List UInt8)) (size whole : Nat) : St :=
  let e1 := if whole < size then errT S log whole else 0
  let S1 := if whole < size then truncS S log whole else S
  if e1 ≠ 0 then S1 else
  let e2 := if whole < size ∨ (es ≠ [] ∧ lastsB S1 log whole = false) then errF S1 log else 0
  let S2 := if whole < size ∨ (es ≠ [] ∧ lastsB S1 log whole = false) then syncS S1 log else S1
  if e2 ≠ 0 then S2 else if es = [] then removeS S2 log else S2
/-- The log, read. -/
def logE (S : St) (log : ByteArray) (base : Nat) : Nat :=
  if readE S log ≠ 0 then 0 else match logged base (readD S log) with
    | none => 3
    | some es => tidyE S log es (readD S log).length (scan (readD S log)).2
def logS (S : St) (log : ByteArray) (base : Nat) : St :=
  if readE S log ≠ 0 then S else match logged base (readD S log) with
    | none => S
    | some es => tidyS S log es (readD S log).length (scan (readD S log)).2
def logL (S : St) (log : ByteArray) (base : Nat) : List (List UInt8) := if readE S log ≠ 0 then [] else (logged base (readD S log)).getD []
/-- Open: what it answers, what it leaves. -/
def opE (S : St) (img log : ByteArray) : Nat :=
  if rmE S (tilde img) ≠ 0 then rmE S (tilde img) else if imgE (rmS S (tilde img)) img ≠ 0 then imgE (rmS S (tilde img)) img else logE (rmS S (tilde img)) log (imgV (rmS S (tilde img)) img).1
def opS (S : St) (img log : ByteArray) : St :=
  if rmE S (tilde img) ≠ 0 then rmS S (tilde img) else if imgE (rmS S (tilde img)) img ≠ 0 then rmS S (tilde img) else logS (rmS S (tilde img)) log (imgV (rmS S (tilde img)) img).1
def opL (S : St) (img log : ByteArray) : LS :=
  ⟨(imgV (rmS S (tilde img)) img).1, (imgV (rmS S (tilde img)) img).2, logL (rmS S (tilde img)) log (imgV (rmS S (tilde img)) img).1, false⟩
end Go.Proofs.YtblggoneifmoeaaDoor
/-
  Words for a ledger in memory: a struct of seven cells, the image's bytes, a row of entries, each in a row of its own; beside a disk.
-/
namespace Go.Proofs.YtblggoneifmoeaaDoor
open Go.RowKit Go.Maps

/-- Rows of bytes of the call's own, all in the blocks G. -/
def Es (G : List Nat) (w : World) (A : Option Addr) (n c : Nat) (ls : List (List UInt8)) : Prop :=
  ls.length = n ∧ ∃ vs, Own w 23 A n c vs ∧ (∀ x ∈ blks A, x ∈ G) ∧ ∀ (i : Nat) (l : List UInt8), ls[i]? = some l → ∃ Ai ci, vs[i]? = some (.slice Ai l.length ci) ∧ Own w 5 Ai l.length ci (bvs l) ∧ ∀ x ∈ blks Ai, x ∈ G
section
variable {G G' rs : List Nat} {w w' : World} {A : Option Addr} {n c : Nat} {ls : List (List UInt8)}
theorem Es.nil (G : List Nat) (w : World) : Es G w none 0 0 [] := ⟨rfl, [], Own.nil _ _, (fun _ hx => nomatch hx), fun i l h => by simp at h⟩
theorem Es.len (h : Es G w A n c ls) : ls.length = n := h.1
theorem Es.only (h : Es G w A n c ls) (o : Only rs w w') (hd : ∀ x ∈ G, x ∉ rs) : Es G w' A n c ls := by
  obtain ⟨h1, vs, h2, h3, h4⟩ := h
  refine ⟨h1, vs, h2.only o (fun x hx => hd x (h3 x hx)), h3, fun i l hi => ?_⟩
  obtain ⟨Ai, ci, e1, e2, e3⟩ := h4 i l hi
  exact ⟨Ai, ci, e1, e2.only o (fun x hx => hd x (e3 x hx)), e3⟩
theorem Es.keep (h : Es G w A n c ls) (o : Only [] w w') : Es G w' A n c ls := h.only o (fun _ _ hm => nomatch hm)
theorem Es.mono (h : Es G w A n c ls) (hG : ∀ x ∈ G, x ∈ G') : Es G' w A n c ls := by
  obtain ⟨h1, vs, h2, h3, h4⟩ := h
  refine ⟨h1, vs, h2, fun x hx => hG x (h3 x hx), fun i l hi => ?_⟩
  obtain ⟨Ai, ci, e1, e2, e3⟩ := h4 i l hi
  exact ⟨Ai, ci, e1, e2, fun x hx => hG x (e3 x hx)⟩
theorem Es.at_ (h : Es G w A n c ls) {k : Nat} (hk : k < n) (hk' : k < ls.length) : ∃ ad Ai ci, A = some ad ∧ w.cell? (ad.add k) = some (.slice Ai ls[k].length ci) ∧ Own w 5 Ai ls[k].length ci (bvs ls[k]) ∧ ∀ x ∈ blks Ai, x ∈ G := by
  obtain ⟨h1, vs, h2, h3, h4⟩ := h
  obtain ⟨ad, u, rfl, hu, hc⟩ := h2.sl.at_ hk
  obtain ⟨Ai, ci, e1, e2, e3⟩ := h4 k ls[k] (List.getElem?_eq_getElem hk')
  rw [hu] at e1
  injection e1 with e1
  subst e1
  exact ⟨ad, Ai, ci, rfl, hc, e2, e3⟩
end

/-- The ledger in block g: what it holds; all of it lies in the blocks G. -/
def Lg (w : World) (d g : Nat) (img log : ByteArray) (G : List Nat) (L : LS) : Prop :=
  ∃ Ad cd Ae ce, Bk w g 55 #[.pointer (some ⟨d, 0, none⟩), .string img, .string log, .int .i64 (L.base : Int), .slice Ad L.data.length cd, .slice Ae L.es.length ce, .bool L.dead] ∧
    Own w 5 Ad L.data.length cd (bvs L.data) ∧ Es G w Ae L.es.length ce L.es ∧ g ∈ G ∧ (∀ x ∈ blks Ad, x ∈ G) ∧ (∀ x ∈ G, x < w.heap.size) ∧ L.base ≤ 1099511627776 ∧ L.data.length ≤ 1073741824 ∧ L.es.length ≤ 1099511627776 ∧ ∀ l ∈ L.es, l.length ≤ 1073741824
section
variable {rs : List Nat} {w w' : World} {d g : Nat} {img log : ByteArray} {F G : List Nat} {S S' : St} {L L' : LS}
theorem Lg.only (h : Lg w d g img log G L) (o : Only rs w w') (hd : ∀ x ∈ G, x ∉ rs) : Lg w' d g img log G L := by
  obtain ⟨Ad, cd, Ae, ce, h1, h2, h3, h4, h5, h6, h7⟩ := h
  exact ⟨Ad, cd, Ae, ce, h1.only o (hd g h4), h2.only o (fun x hx => hd x (h5 x hx)), h3.only o hd, h4, h5, fun x hx => Nat.lt_of_lt_of_le (h6 x hx) o.size, h7⟩
theorem Lg.keep (h : Lg w d g img log G L) (o : Only [] w w') : Lg w' d g img log G L := h.only o (fun _ _ hm => nomatch hm)
theorem Lg.lt (h : Lg w d g img log G L) {x : Nat} (hx : x ∈ G) : x < w.heap.size := by
  obtain ⟨Ad, cd, Ae, ce, h1, h2, h3, h4, h5, h6, h7⟩ := h
  exact h6 x hx
theorem Lg.g_mem (h : Lg w d g img log G L) : g ∈ G := by
  obtain ⟨Ad, cd, Ae, ce, h1, h2, h3, h4, h5, h6, h7⟩ := h
  exact h4
theorem Lg.bounds (h : Lg w d g img log G L) : L.base ≤ 1099511627776 ∧ L.data.length ≤ 1073741824 ∧ L.es.length ≤ 1099511627776 := by
  obtain ⟨Ad, cd, Ae, ce, h1, h2, h3, h4, h5, h6, h7⟩ := h
  exact ⟨h7.1, h7.2.1, h7.2.2.1⟩
theorem Lg.small (h : Lg w d g img log G L) {l : List UInt8} (hl : l ∈ L.es) : l.length ≤ 1073741824 := by
  obtain ⟨Ad, cd, Ae, ce, h1, h2, h3, h4, h5, h6, h7⟩ := h
  exact h7.2.2.2 l hl
/-- Its cells. -/
theorem Lg.cells (h : Lg w d g img log G L) : w.cell? ⟨g, 0, none⟩ = some (.pointer (some ⟨d, 0, none⟩)) ∧ w.cell? ⟨g, 1, none⟩ = some (.string img) ∧ w.cell? ⟨g, 2, none⟩ = some (.string log) ∧ w.cell? ⟨g, 3, none⟩ = some (.int .i64 (L.base : Int)) ∧
    (∃ Ad cd, w.cell? ⟨g, 4, none⟩ = some (.slice Ad L.data.length cd) ∧ Own w 5 Ad L.data.length cd (bvs L.data)) ∧ (∃ Ae ce, w.cell? ⟨g, 5, none⟩ = some (.slice Ae L.es.length ce) ∧ Es G w Ae L.es.length ce L.es) ∧ w.cell? ⟨g, 6, none⟩ = some (.bool L.dead) ∧ g < w.heap.size := by
  obtain ⟨Ad, cd, Ae, ce, h1, h2, h3, h4, h5, h6, h7⟩ := h
  refine ⟨by rw [h1.cell]; rfl, by rw [h1.cell]; rfl, by rw [h1.cell]; rfl, by rw [h1.cell]; rfl, ⟨Ad, cd, by rw [h1.cell]; rfl, h2⟩, ⟨Ae, ce, by rw [h1.cell]; rfl, h3⟩, by rw [h1.cell]; rfl, h1.lt⟩
theorem Lg.free (h : Lg w d g img log G L) (i : Nat) : w.frozen? ⟨g, i, none⟩ = false := by
  obtain ⟨Ad, cd, Ae, ce, h1, _⟩ := h
  exact h1.free i
/-- It is dead now. -/
theorem Lg.die (h : Lg w d g img log G L) : Lg (w.setCell ⟨g, 6, none⟩ (.bool true)) d g img log G { L with dead := true } := by
  obtain ⟨Ad, cd, Ae, ce, h1, h2, ⟨h3, vs, e2, e3, e4⟩, h4, h5, h6, h7⟩ := h
  have hne : ∀ {t : TypeId} {A : Option Addr} {n c : Nat} {xs : List Value}, Own w t A n c xs → t ≠ 55 → g ∉ blks A := fun ho ht hm => by
    obtain ⟨cur, hc⟩ := ho.bk hm
    exact hc.ne h1 ht rfl
  refine ⟨Ad, cd, Ae, ce, by simpa using h1.set 6 (.bool true), h2.setFar (hne h2 (by decide)) _, ⟨h3, vs, e2.setFar (hne e2 (by decide)) _, e3, fun i l hi => ?_⟩, h4, h5, fun x hx => by simpa [World.setCell] using h6 x hx, h7⟩
  obtain ⟨Ai, ci, k1, k2, k3⟩ := e4 i l hi
  exact ⟨Ai, ci, k1, k2.setFar (hne k2 (by decide)) _, k3⟩

/-- What a call of a ledger's has done: the disk means S', the ledger L', they do not meet; of what was there theirs alone has turned. -/
def Jd (d g : Nat) (img log : ByteArray) (F G : List Nat) (S' : St) (L' : LS) (v : Value) (w : World) (e : Ending) (w' : World) : Prop :=
  e = .returned v ∧ ∃ F' G', Disk w' d F' S' ∧ Lg w' d g img log G' L' ∧ (∀ x ∈ F', x ∉ G') ∧ Only (F ++ G) w w' ∧ (∀ x ∈ F', x ∈ F ∨ w.heap.size ≤ x) ∧ ∀ x ∈ G', x ∈ G ∨ w.heap.size ≤ x
/-- The disk alone has turned. -/
theorem jd_of_did {v : Value} {e : Ending} (hL : Lg w d g img log G L) (hFG : ∀ x ∈ F, x ∉ G) (h : Did d F S' v w e w') : Jd d g img log F G S' L v w e w' := by
  obtain ⟨he, F', hD, hO, hB⟩ := h
  refine ⟨he, F', G, hD, hL.only hO (fun x hx hm => hFG x hm hx), fun x hx hm => ?_, hO.mono (fun x hx => .inl (by simp [hx])), hB, fun x hx => .inl hx⟩
  rcases hB x hx with h | h
  · exact hFG x h hm
  · have := hL.lt hm; omega
end
end Go.Proofs.YtblggoneifmoeaaDoor
/-
  ledger's small functions: ready, die, Last, remove, numbered.
-/
namespace Go.Proofs.YtblggoneifmoeaaDoor
open Go.RowKit Go.Maps
section
variable {w : World} {d g : Nat} {img log : ByteArray} {F G : List Nat} {S : St} {L : LS}
set_option maxRecDepth 100000 in
theorem ready_any (h : Lg w d g img log G L) : Calls Tryd.prog 25 #[.pointer (some ⟨g, 0, none⟩)] w fun e w' => e = .returned (.int .i64 (if L.dead then 9 else 0)) ∧ w = w' := by
  obtain ⟨_, _, _, _, _, _, c6, hg⟩ := h.cells
  clear h
  cases hd : L.dead
  · rw [hd] at c6
    clear hd
    go_enter Tryd.func25, Tryd.ntmps25
    go_wp2
    go_ret
    exact ⟨rfl, rfl⟩
  · rw [hd] at c6
    clear hd
    go_enter Tryd.func25, Tryd.ntmps25
    go_wp2
    go_ret
    exact ⟨rfl, rfl⟩
theorem ready_nil (w : World) : Calls Tryd.prog 25 #[.pointer none] w fun e w' => e = .returned (.int .i64 1) ∧ w = w' := by
  go_enter Tryd.func25, Tryd.ntmps25
  go_wp2
  go_ret
  exact ⟨rfl, rfl⟩
set_option maxRecDepth 100000 in
theorem die_any (h : Lg w d g img log G L) (x : Int) : Calls Tryd.prog 28 #[.pointer (some ⟨g, 0, none⟩), .int .i64 x] w fun e w' => e = .returned (.int .i64 x) ∧ Lg w' d g img log G { L with dead := true } ∧ Only [g] w w' := by
  obtain ⟨_, _, _, _, _, _, c6, hg⟩ := h.cells
  have f6 := h.free 6
  have HD := Lib.hid h.die
  clear h
  go_enter Tryd.func28, Tryd.ntmps28
  go_wp2
  go_ret
  exact ⟨rfl, HD.out, (Only.refl _ _).setCell (.inl (by simp)) _⟩
set_option maxRecDepth 100000 in
theorem Last_any (h : Lg w d g img log G L) : Calls Tryd.prog 13 #[.pointer (some ⟨g, 0, none⟩)] w fun e w' => e = .returned (.int .i64 (L.last : Int)) ∧ Only [] w w' := by
  obtain ⟨_, _, _, c3, _, ⟨Ae, ce, c5, _⟩, _, hg⟩ := h.cells
  obtain ⟨b1, _, b3⟩ := h.bounds
  have HL : Hid ((L.last : Int) = (L.base : Int) + (L.es.length : Int)) := by
    show _ = _
    unfold LS.last
    omega
  obtain ⟨z, hz⟩ : ∃ z : Int, (L.last : Int) = z := ⟨_, rfl⟩
  rw [hz] at HL ⊢
  obtain ⟨x, hx⟩ : ∃ x, L.base = x := ⟨_, rfl⟩
  obtain ⟨y, hy⟩ : ∃ y, L.es.length = y := ⟨_, rfl⟩
  rw [hx] at c3 b1 HL
  rw [hy] at c5 b3 HL
  clear h hz hx hy
  go_enter Tryd.func13, Tryd.ntmps13
  go_wp2_with fail
  go_quiet (fail)
  go_wp2_with fail
  go_ret
  exact ⟨by rw [HL.out]; rfl, (Only.refl _ _).drewN _⟩
theorem Last_nil (w : World) : Calls Tryd.prog 13 #[.pointer none] w fun e w' => e = .returned (.int .i64 0) ∧ w = w' := by
  go_enter Tryd.func13, Tryd.ntmps13
  go_wp2
  go_ret
  exact ⟨rfl, rfl⟩
theorem readE_cases (S : St) (s : ByteArray) : readE S s = 0 ∨ readE S s = 7 := by
  unfold readE
  split
  · exact .inr rfl
  · exact .inl rfl
set_option maxRecDepth 100000 in
/-- A file is taken away, if it is there. -/
theorem lremove_any (hD : Disk w d F S) (h : w.cell? ⟨g, 0, none⟩ = some (.pointer (some ⟨d, 0, none⟩))) (s : ByteArray) (hs : s.size ≤ maxLen) :
    Calls Tryd.prog 22 #[.pointer (some ⟨g, 0, none⟩), .string s] w (Did d F (rmS S s) (.int .i64 (rmE S s : Nat)) w) := by
  have HR := Lib.hid (read_any hD s hs)
  have HD := Lib.hid hD
  have hg := block_lt_of_cell h
  obtain ⟨bs, hbs⟩ : ∃ b, readD S s = b := ⟨_, rfl⟩
  rw [hbs] at HR
  rcases readE_cases S s with h0 | h0
  · have e1 : rmE S s = errF S s := by unfold rmE; rw [if_neg (by omega)]
    have e2 : rmS S s = removeS S s := by unfold rmS; rw [if_neg (by omega)]
    rw [e1, e2]
    rw [h0] at HR
    have HX := Lib.hid (fun (W : World) (hW : Disk W d F S) => remove_one hW s)
    generalize errF S s = x at HX ⊢
    generalize removeS S s = S1 at HX ⊢
    clear e1 e2 h0 hbs hs hD
    go_enter Tryd.func22, Tryd.ntmps22
    go_wp2_with (first
      | (go_at_call 19; refine HR.out.mono ?_; clear HR; rintro e w1 ⟨A1, c1, rfl, V1, O1, B1⟩; have h1 := O1.cellSome h (fun hm => nomatch hm))
      | (go_at_call 34; refine (HX.out w1 (HD.out.keep O1)).mono ?_; clear HX; rintro e w2 ⟨rfl, hD2⟩))
    go_ret
    exact Did.then (F1 := F) (O1.mono fun _ h => nomatch h) (fun _ h => .inl h) ⟨rfl, hD2⟩
  · have e1 : rmE S s = 0 := by unfold rmE; rw [if_pos h0]
    have e2 : rmS S s = S := by unfold rmS; rw [if_pos h0]
    rw [e1, e2]
    rw [h0] at HR
    clear e1 e2 h0 hbs hs hD
    go_enter Tryd.func22, Tryd.ntmps22
    go_wp2_with (go_at_call 19; refine HR.out.mono ?_; clear HR; rintro e w1 ⟨A1, c1, rfl, V1, O1, B1⟩)
    go_ret
    exact did_same rfl HD.out O1
end
end Go.Proofs.YtblggoneifmoeaaDoor
/-
  ledger's layRecord: a record laid behind the log, and synced.
-/
namespace Go.Proofs.YtblggoneifmoeaaDoor
open Go.RowKit Go.Maps
section
variable {w : World} {d g : Nat} {img log : ByteArray} {F G : List Nat} {S : St} {L : LS}
set_option maxRecDepth 100000 in
theorem layRecord_any (hD : Disk w d F S) (h : Lg w d g img log G L) (hFG : ∀ x ∈ F, x ∉ G) (A : Option Addr) (n c : Nat) (p : List UInt8) (hs : Sl w A n (bvs p)) (hn : n ≤ 1048576) (ht : Tab w) :
    Calls Tryd.prog 26 #[.pointer (some ⟨g, 0, none⟩), .slice A n c] w (Did d F (layS S log (record p)) (.int .i64 (layE S log (record p) : Nat)) w) := by
  obtain ⟨c0, _, c2, _, _, _, _, hg⟩ := h.cells
  have hgF : g ∉ F := fun hm => hFG g hm h.g_mem
  have hl : p.length = n := by simpa using hs.len
  subst hl
  have HE := Lib.hid (encode_rows (some ⟨w.heap.size, 0, none⟩) 1 1 [p] p (w.alloc (.cells #[.slice A p.length c] 23)) (by simp) (Rw.one (Bk.new w _ _) (hs.alloc _)) (ht.keep ((Only.refl [] w).alloc _)) (by omega) (by omega))
  have HD := Lib.hid hD
  obtain ⟨r, hr'⟩ : ∃ r, r = record p := ⟨_, rfl⟩
  rw [← hr'] at HE ⊢
  have HX := Lib.hid (fun (W : World) (F : List Nat) (hD : Disk W d F S) (A : Option Addr) (n c : Nat) hl hs hA => append_one hD log A n c r hl hs hA)
  clear hr' hs ht h hFG
  rcases errA_cases S log r with ha | ha | ha | ha
  · have e1 : layS S log r = syncS (appendS S log r) log := by unfold layS; rw [if_pos ha]
    have e2 : layE S log r = errF (appendS S log r) log := by unfold layE; rw [if_pos ha]
    rw [e1, e2]
    rw [ha] at HX
    clear e1 e2 ha hD
    go_enter Tryd.func26, Tryd.ntmps26
    go_wp2_with (go_at_call 40; refine HE.out.mono ?_; clear HE; rintro e w1 ⟨A1, c1, rfl, V1, O1, B1⟩; have O1' := ((Only.refl [] w).alloc _).trans O1 (fun _ h => nomatch h); have k0 := O1'.cellSome c0 (fun hm => nomatch hm); have k2 := O1'.cellSome c2 (fun hm => nomatch hm))
    go_region_held3 (fun w' => w'.cell? ⟨g, 0, none⟩ = some (.pointer (some ⟨d, 0, none⟩)) ∧ w'.cell? ⟨g, 2, none⟩ = some (.string log)) (first | go_keep | exact ⟨k0, k2⟩ | exact ⟨j0, j2⟩) ((go_at_call 41; refine (HX.out _ _ (HD.out.keep O1'.drew) A1 _ c1 rfl (V1.sl.keep (Only.refl _ _).drew) (fun _ ad e hm => by have := B1 _ (mem_blks e); have := HD.out.lt hm; simp at *; omega)).mono ?_; clear HX; rintro e w2 ⟨rfl, hD2⟩; obtain ⟨F2, D2, O2, B2⟩ := chained (F := F) (O1'.drew.mono (fun _ h => nomatch h)) (fun _ h => .inl h) hD2; have j0 := O2.cellSome c0 hgF; have j2 := O2.cellSome c2 hgF))
    go_wp2
    go_region_held3 (fun w' => w'.cell? ⟨g, 0, none⟩ = some (.pointer (some ⟨d, 0, none⟩)) ∧ w'.cell? ⟨g, 2, none⟩ = some (.string log)) (first | go_keep | exact ⟨j0, j2⟩ | exact ⟨i0, i2⟩) ((go_at_call 42; refine (sync_one (D2.keep (Only.refl _ _).drew) log).mono ?_; rintro e w3 ⟨rfl, hD3⟩; obtain ⟨F3, D3, O3, B3⟩ := chained O2.drew B2 hD3; have i0 := O3.cellSome c0 hgF; have i2 := O3.cellSome c2 hgF))
    go_wp2
    go_ret
    exact ⟨rfl, F3, D3, O3, B3⟩
  all_goals
    have e1 : layS S log r = S := by unfold layS; rw [if_neg (by omega)]
    have e2 : layE S log r = errA S log r := by unfold layE; rw [if_neg (by omega)]
    have e3 : appendS S log r = S := by unfold appendS; rw [if_neg (by omega)]
    rw [e1, e2, ha]
    rw [ha, e3] at HX
    clear e1 e2 e3 ha hD
    go_enter Tryd.func26, Tryd.ntmps26
    go_wp2_with (go_at_call 40; refine HE.out.mono ?_; clear HE; rintro e w1 ⟨A1, c1, rfl, V1, O1, B1⟩; have O1' := ((Only.refl [] w).alloc _).trans O1 (fun _ h => nomatch h); have k0 := O1'.cellSome c0 (fun hm => nomatch hm); have k2 := O1'.cellSome c2 (fun hm => nomatch hm))
    go_region_held3 (fun w' => w'.cell? ⟨g, 0, none⟩ = some (.pointer (some ⟨d, 0, none⟩)) ∧ w'.cell? ⟨g, 2, none⟩ = some (.string log)) (first | go_keep | exact ⟨k0, k2⟩ | exact ⟨i0, i2⟩) ((go_at_call 41; refine (HX.out _ _ (HD.out.keep O1'.drew) A1 _ c1 rfl (V1.sl.keep (Only.refl _ _).drew) (fun _ ad e hm => by have := B1 _ (mem_blks e); have := HD.out.lt hm; simp at *; omega)).mono ?_; clear HX; rintro e w2 ⟨rfl, hD2⟩; obtain ⟨F2, D2, O2, B2⟩ := chained (F := F) (O1'.drew.mono (fun _ h => nomatch h)) (fun _ h => .inl h) hD2; have i0 := O2.cellSome c0 hgF; have i2 := O2.cellSome c2 hgF))
    go_wp2
    go_ret
    exact ⟨rfl, F2, D2, O2, B2⟩
end
end Go.Proofs.YtblggoneifmoeaaDoor
/-
  ledger's Append.
-/
namespace Go.Proofs.YtblggoneifmoeaaDoor
open Go.RowKit Go.Maps
section
variable {w w4 w5 : World} {d g : Nat} {img log : ByteArray} {F G : List Nat} {S : St} {L : LS} {Ad Ae : Option Addr} {cd ce : Nat} {vs : List Value}
theorem own_off {w : World} {t u : TypeId} {A : Option Addr} {n c : Nat} {xs : List Value} {cs : Array Value} (ho : Own w t A n c xs) (h1 : Bk w g u cs) (ht : t ≠ u) : g ∉ blks A := fun hm => by
  obtain ⟨cur, hc⟩ := ho.bk hm
  exact hc.ne h1 ht rfl
/-- One entry more. -/
theorem lg_snoc (h1 : Bk w g 55 #[.pointer (some ⟨d, 0, none⟩), .string img, .string log, .int .i64 (L.base : Int), .slice Ad L.data.length cd, .slice Ae L.es.length ce, .bool L.dead])
    (h2 : Own w 5 Ad L.data.length cd (bvs L.data)) (e1 : L.es.length = vs.length) (e2 : Own w 23 Ae L.es.length ce vs)
    (e4 : ∀ (i : Nat) (l : List UInt8), L.es[i]? = some l → ∃ Ai ci, vs[i]? = some (.slice Ai l.length ci) ∧ Own w 5 Ai l.length ci (bvs l) ∧ ∀ x ∈ blks Ai, x ∈ G)
    (h4 : g ∈ G) (h5 : ∀ x ∈ blks Ad, x ∈ G) (h6 : ∀ x ∈ G, x < w.heap.size) (h7 : L.base ≤ 1099511627776 ∧ L.data.length ≤ 1073741824) (hb : L.es.length + 1 ≤ 1099511627776) (h8 : ∀ l ∈ L.es, l.length ≤ 1073741824)
    {A4 L2 : Option Addr} {c4 c2 : Nat} {p : List UInt8} (hp : p.length ≤ 1073741824) (O : Only [] w w4) (V4 : Own w4 5 A4 p.length c4 (bvs p)) (O5 : Only (blks Ae) w4 w5)
    (HV2 : Own w5 23 L2 (L.es.length + 1) c2 (vs ++ [.slice A4 p.length c4])) :
    Lg (w5.setCell ⟨g, 5, none⟩ (.slice L2 (L.es.length + 1) c2)) d g img log (G ++ (blks L2 ++ blks A4)) { L with es := L.es ++ [p] } ∧ Only (g :: blks Ae) w (w5.setCell ⟨g, 5, none⟩ (.slice L2 (L.es.length + 1) c2)) := by
  have e2' := e2.keep O
  have hgA := own_off e2' (h1.only O (fun hm => nomatch hm)) (by decide)
  have HB5 := (h1.only O (fun hm => nomatch hm)).only O5 hgA
  have V5 := V4.only O5 (V4.apart e2' (by decide))
  have D5 := (h2.keep O).only O5 ((h2.keep O).apart e2' (by decide))
  have sz : w.heap.size ≤ w5.heap.size := Nat.le_trans O.size O5.size
  refine ⟨⟨Ad, cd, L2, c2, ?_, D5.setFar (own_off D5 HB5 (by decide)) _, ⟨rfl, vs ++ [.slice A4 p.length c4], ?_, ?_, ?_⟩, ?_, ?_, ?_, ?_⟩, ?_⟩
  · have := HB5.set 5 (.slice L2 (L.es.length + 1) c2)
    rw [show (L.es ++ [p]).length = L.es.length + 1 from by simp]
    simpa using this
  · rw [show (L.es ++ [p]).length = L.es.length + 1 from by simp]
    exact HV2.setFar (own_off HV2 HB5 (by decide)) _
  · intro x hx
    simp [hx]
  · intro i l hi
    rcases Nat.lt_or_ge i L.es.length with hlt | hge
    · rw [List.getElem?_append_left hlt] at hi
      obtain ⟨Ai, ci, k1, k2, k3⟩ := e4 i l hi
      have k5 := (k2.keep O).only O5 ((k2.keep O).apart e2' (by decide))
      exact ⟨Ai, ci, by rw [List.getElem?_append_left (by omega)]; exact k1, k5.setFar (own_off k5 HB5 (by decide)) _, fun x hx => by simp [k3 x hx]⟩
    · rw [List.getElem?_append_right hge] at hi
      have h0 : i - L.es.length = 0 := by
        have := (List.getElem?_eq_some_iff.1 hi).1
        simp at this
        omega
      rw [h0] at hi
      simp at hi
      subst hi
      exact ⟨A4, c4, by rw [List.getElem?_append_right (by omega), ← e1, h0]; rfl, V5.setFar (own_off V5 HB5 (by decide)) _, fun x hx => by simp [hx]⟩
  · simp [h4]
  · intro x hx
    simp [h5 x hx]
  · intro x hx
    simp only [List.mem_append] at hx
    show x < (w5.setCell _ _).heap.size
    have hs5 : (w5.setCell ⟨g, 5, none⟩ (.slice L2 (L.es.length + 1) c2)).heap.size = w5.heap.size := by simp [World.setCell]
    rw [hs5]
    rcases hx with hx | hx | hx
    · have := h6 x hx; omega
    · exact HV2.lt hx
    · exact V5.lt hx
  · refine ⟨h7.1, h7.2, ?_, fun l hl => ?_⟩
    · rw [show (L.es ++ [p]).length = L.es.length + 1 from by simp]
      exact hb
    · simp only [List.mem_append, List.mem_singleton] at hl
      rcases hl with hl | hl
      · exact h8 l hl
      · subst hl; exact hp
  · exact ((O.mono (ss := g :: blks Ae) (fun _ h => nomatch h)).trans O5 (fun x hx => .inl (List.mem_cons_of_mem _ hx))).setCell (.inl (by simp)) _
end
end Go.Proofs.YtblggoneifmoeaaDoor
