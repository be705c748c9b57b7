/-
  Texts of the seat, laid one behind the other: SOwn SMovm SOwn2 SMoves.
-/
import Derived.Test.YtgnilldcfpgpaaaGreatDoorZ20
import Derived.Test.YtgnilldcfpgpaaaGreatDoorZ10
namespace Go.Proofs.YtgnilldcfpgpaaaGreatDoor
open Go.RowKit Go.Maps
def Ost (w0 : World) (q g d lg : Nat) (cs : Array Value) (S : Stt) (k : Nat) (C M : Nat → Prop) (w : World) : Prop :=
  ∃ F G D L mu, StoreIs w g d lg (imgName mailN) (logName mailN) F G D L S mu false ∧ Calm D (logName mailN) L k ∧ Only [] w0 w ∧ (∀ x ∈ F, w0.heap.size ≤ x) ∧ (∀ x ∈ G, w0.heap.size ≤ x) ∧ w0.heap.size ≤ g ∧ (Bk w q 39 cs ∧ q ∉ F ∧ q ∉ G ∧ q ≠ g) ∧ (∀ x, C x → x < w.heap.size ∧ x ∉ F ∧ x ∉ G ∧ x ≠ g) ∧ (∀ x, M x → C x ∧ x ≠ q ∧ w0.heap.size ≤ x) ∧ StIs (fun y => StK F G g y ∧ ¬ M y) w mu S
section
variable {w0 w w' : World} {q g d lg : Nat} {cs : Array Value} {S : Stt} {k : Nat} {C C' M M' : Nat → Prop}
theorem Ost.keep (h : Ost w0 q g d lg cs S k C M w) (o : Only [] w w') : Ost w0 q g d lg cs S k C M w' := by
  obtain ⟨F, G, D, L, mu, h1, h2, h3, h4, h5, h6, ⟨h7, h8⟩, h9, h10, h11⟩ := h
  exact ⟨F, G, D, L, mu, h1.keep o, h2, h3.then o, h4, h5, h6, ⟨h7.only o (by simp), h8⟩, fun x hx => ⟨Nat.lt_of_lt_of_le (h9 x hx).1 o.size, (h9 x hx).2⟩, h10, h11.keep o⟩
theorem Ost.more (h : Ost w0 q g d lg cs S k C M w) (o : Only [] w w') (hc : ∀ x, C' x → C x ∨ (w.heap.size ≤ x ∧ x < w'.heap.size)) (hm : ∀ x, M' x → C' x ∧ (M x ∨ w.heap.size ≤ x)) : Ost w0 q g d lg cs S k C' M' w' := by
  obtain ⟨F, G, D, L, mu, h1, h2, h3, h4, h5, h6, ⟨h7, h8⟩, h9, h10, h11⟩ := h
  have hql := h7.lt
  have hsz := h3.size
  refine ⟨F, G, D, L, mu, h1.keep o, h2, h3.then o, h4, h5, h6, ⟨h7.only o (by simp), h8⟩, fun x hx => ?_, fun x hx => ⟨(hm x hx).1, ?_⟩, (h11.mono (fun y hl hy => ⟨hy.1, fun hm' => ?_⟩)).keep o⟩
  · rcases hc x hx with hx | ⟨hx, hl⟩
    · exact ⟨Nat.lt_of_lt_of_le (h9 x hx).1 o.size, (h9 x hx).2⟩
    · refine ⟨hl, fun hm => ?_, fun hm => ?_, fun hm => ?_⟩
      · have := h1.dk.lt hm; omega
      · have := h1.lgr.lt hm; omega
      · have := h1.bk.lt; omega
  · rcases (hm x hx).2 with h | h
    · exact (h10 x h).2
    · exact ⟨by omega, by omega⟩
  · rcases (hm y hm').2 with h | h
    · exact hy.2 h
    · omega
theorem Ost.turn (h : Ost w0 q g d lg cs S k C M w) {rs : List Nat} (o : Only rs w w') (hc : ∀ x ∈ rs, M x) : Ost w0 q g d lg cs S k C M w' := by
  obtain ⟨F, G, D, L, mu, h1, h2, h3, h4, h5, h6, ⟨h7, h8⟩, h9, h10, h11⟩ := h
  have hC : ∀ x ∈ rs, C x := fun x hx => (h10 x (hc x hx)).1
  have hF : ∀ x ∈ F, x ∉ rs := fun x hx hr => (h9 x (hC x hr)).2.1 hx
  have hG : ∀ x ∈ G, x ∉ rs := fun x hx hr => (h9 x (hC x hr)).2.2.1 hx
  have hg : g ∉ rs := fun hr => (h9 g (hC g hr)).2.2.2 rfl
  have hst : StIs (fun y => StK F G g y ∧ ¬ M y) w' mu S := h11.only o (fun x hx hr => hx.2 (hc x hr))
  exact ⟨F, G, D, L, mu, ⟨h1.bk.only o hg, h1.dk.only o hF, h1.lgr.only o hG, h1.fg, hst.mono (fun y _ hy => hy.1), h1.own, h1.good⟩, h2, h3.trans o (fun x hx => .inr (h10 x (hc x hx)).2.2), h4, h5, h6, ⟨h7.only o (fun hr => (h10 q (hc q hr)).2.1 rfl), h8⟩, fun x hx => ⟨Nat.lt_of_lt_of_le (h9 x hx).1 o.size, (h9 x hx).2⟩, h10, hst⟩
theorem Ost.only0 (h : Ost w0 q g d lg cs S k C M w) : Only [] w0 w := by
  obtain ⟨F, G, D, L, mu, h1, h2, h3, _⟩ := h
  exact h3
theorem Ost.pair (h : Ost w0 q g d lg cs S k C M w) : Bk w q 39 cs := by
  obtain ⟨F, G, D, L, mu, h1, h2, h3, h4, h5, h6, ⟨h7, _⟩, _, _, _⟩ := h
  exact h7
theorem ost_begin (h : Began w0 D0 (.returned (.pointer (some ⟨q, 0, none⟩))) w) : ∃ d x g t lg, Ost w0 q g d lg #[.pointer (some ⟨d, 0, none⟩), .pointer (some ⟨x, 0, none⟩), .pointer (some ⟨g, 0, none⟩), .pointer (some ⟨t, 0, none⟩)] ⟨1, []⟩ 0 (fun _ => False) (fun _ => False) w := by
  obtain ⟨q', d, x, g, t, lg, F, G, rg, he, Q, s1, _, _, O, hF, hG, hg, n1, n2, n3⟩ := h
  have : q = q' := by
    injection he with he
    injection he with he
    injection he with he
    injection he
  subst this
  exact ⟨d, x, g, t, lg, F, G, D0, L0, none, s1, calm_0, O, hF, hG, hg, ⟨Q, n1, n2, n3⟩, fun _ h => h.elim, fun _ h => h.elim, s1.st.mono (fun y _ hy => ⟨hy, fun h => h⟩)⟩
def stepS (S : Stt) (c : Ch) : Stt := if doE S c = 0 then doS S c else S
def stepN (S : Stt) (c : Ch) : Int := if doE S c = 0 then doN S c else 0
def Done (w0 : World) (q g d lg : Nat) (cs : Array Value) (S : Stt) (k : Nat) (C M : Nat → Prop) (w : World) (E N : Int) (e : Ending) (w' : World) : Prop :=
  e = .returned (.tuple #[.int .i64 N, .int .i64 E]) ∧ ∃ k' rs, k' ≤ k + 1 ∧ Ost w0 q g d lg cs S k' C M w' ∧ Only rs w w' ∧ ∀ x, C x → x ∉ rs
theorem ost_do (h : Ost w0 q g d lg cs S k C M w) (hk : k < 19) (ch : Ch) {Au Ab : Option Addr} {cu cb : Nat} (hci : ChIn w ch Au Ab) (hok : isC ch = true)
    (hT : TabN w) (hpos : 0 < w.heap.size) (ht : Tab w) {E N : Int} {S' : Stt} (hE : doE S ch = E) (hN : stepN S ch = N) (hS : stepS S ch = S') :
    Calls Tryz.prog 15 #[.pointer (some ⟨g, 0, none⟩), chv ch Au cu Ab cb] w (Done w0 q g d lg cs S' k C M w E N) := by
  subst hE hN hS
  obtain ⟨F, G, D, L, mu, h1, h2, h3, h4, h5, h6, ⟨h7, h8⟩, h9, h10, h11⟩ := h
  obtain ⟨i1, i2, i3, i4, i5, i6, i7, i8, i9, i10⟩ := isC_small hok
  by_cases he : doE S ch = 0
  · obtain ⟨ca, hc⟩ := calm_step h2 log_ok (by omega) (encC ch) (by have := encC_le hok; omega)
    refine (Do_okP (P := fun y => ¬ M y) (fun y hy hm => by have := (h9 y (h10 y hm).1).1; omega) h11 h1 ch (Au := Au) (Ab := Ab) (cu := cu) (cb := cb) ⟨i2, i4⟩ hci (by omega) hT hpos ht hok he ca (by rw [hc.es]; omega) (good_do h1.good hok he)).mono ?_
    intro e w' hd
    obtain ⟨rfl, F', G', mu', t1, t2, t3, t4, t5⟩ := hd
    obtain ⟨_, F2, G2, mu2, s1, s2, s3, s4, s5, s6⟩ := do_new (e := .returned (.tuple #[.int .i64 (doN S ch), .int .i64 0])) h3 h4 h5 h6 h7 h8 ⟨rfl, F', G', mu', t1, t2, t3, t4⟩
    have hF' : ∀ x ∈ F', w0.heap.size ≤ x := fun x hx => (t3 x hx).elim (h4 x) (fun h => Nat.le_trans h3.size h)
    have hG' : ∀ x ∈ G', w0.heap.size ≤ x := fun x hx => (t4 x hx).elim (h5 x) (fun h => Nat.le_trans h3.size h)
    have hql := h7.lt
    have hfar : ∀ x, x < w.heap.size ∧ x ∉ F ∧ x ∉ G ∧ x ≠ g → x ∉ g :: (F ++ G) := fun x hx hm => by
      rcases List.mem_cons.1 hm with h | hm
      · exact hx.2.2.2 h
      · rcases List.mem_append.1 hm with h | h
        · exact hx.2.1 h
        · exact hx.2.2.1 h
    refine ⟨by unfold stepN; rw [if_pos he, he], k + 1, g :: (F ++ G), Nat.le_refl _, ?_, t2, fun x hx => hfar x (h9 x hx)⟩
    unfold stepS
    rw [if_pos he]
    refine ⟨F', G', _, _, mu', t1, hc, s2, hF', hG', h6, ⟨s5, fun hm => ?_, fun hm => ?_, h8.2.2⟩, fun x hx => ⟨Nat.lt_of_lt_of_le (h9 x hx).1 t2.size, fun hm => ?_, fun hm => ?_, (h9 x hx).2.2.2⟩, h10, t5⟩
    · rcases t3 q hm with h | h
      · exact h8.1 h
      · omega
    · rcases t4 q hm with h | h
      · exact h8.2.1 h
      · omega
    · have := (h9 x hx).1
      rcases t3 x hm with h | h
      · exact (h9 x hx).2.1 h
      · omega
    · have := (h9 x hx).1
      rcases t4 x hm with h | h
      · exact (h9 x hx).2.2.1 h
      · omega
  · refine (Do_refused h1 ch (Au := Au) (Ab := Ab) (cu := cu) (cb := cb) ⟨i2, i4⟩ hci (by omega) hT hpos hok he).mono ?_
    rintro e w' ⟨rfl, o⟩
    refine ⟨by unfold stepN; rw [if_neg he], k, [], by omega, ?_, o, fun _ _ hm => nomatch hm⟩
    unfold stepS
    rw [if_neg he]
    exact Ost.keep ⟨F, G, D, L, mu, h1, h2, h3, h4, h5, h6, ⟨h7, h8⟩, h9, h10, h11⟩ o
theorem ost_get (h : Ost w0 q g d lg cs S k C M w) (s t : List UInt8) (hs : s.length ≤ 140737488355328) (ht : t.length ≤ 140737488355328) :
    Calls Tryz.prog 35 #[.pointer (some ⟨g, 0, none⟩), .string (St s), .string (St t)] w fun e w' => ∃ K : Nat → Prop, Got K S s t w e w' ∧ (∀ y, K y → ¬ M y) ∧ Ost w0 q g d lg cs S k (fun y => C y ∨ (K y ∧ y < w'.heap.size)) M w' := by
  obtain ⟨F, G, D, L, mu, h1, h2, h3, h4, h5, h6, h7, h9, h10, h11⟩ := h
  refine (Get_any (K := fun y => StK F G g y ∧ ¬ M y) h11 h1 (fun y hy => ⟨⟨fun hm => ?_, fun hm => ?_, fun hm => ?_⟩, fun hm => ?_⟩) (fun y _ hy => hy) s t hs ht).mono ?_
  · have := h1.dk.lt hm; omega
  · have := h1.lgr.lt hm; omega
  · have := h1.bk.lt; omega
  · have := (h9 y (h10 y hm).1).1; omega
  · intro e w' hg
    have o := hg.1
    refine ⟨_, hg, fun y hy => hy.2, F, G, D, L, mu, h1.keep o, h2, h3.then o, h4, h5, h6, ⟨h7.1.only o (by simp), h7.2⟩, fun x hx => ?_, fun x hx => ⟨.inl (h10 x hx).1, (h10 x hx).2⟩, h11.keep o⟩
    rcases hx with hx | ⟨hx, hl⟩
    · exact ⟨Nat.lt_of_lt_of_le (h9 x hx).1 o.size, (h9 x hx).2⟩
    · exact ⟨hl, hx.1⟩
end
end Go.Proofs.YtgnilldcfpgpaaaGreatDoor
namespace Go.Proofs.YtgnilldcfpgpaaaGreatDoor
open Go.RowKit Go.Maps
def aN : List UInt8 := [97]
def xN : List UInt8 := [120]
def yN : List UInt8 := [121]
def zN : List UInt8 := [122]
def bxI : Bx := ⟨inboxL, 1, 1, []⟩
def msK (b : List UInt8) : Nat → List Mg
  | 0 => []
  | k + 1 => msK b k ++ [⟨(k : Int) + 1, 0, 0, b⟩]
theorem msK_length (b : List UInt8) : ∀ k, (msK b k).length = k
  | 0 => rfl
  | k + 1 => by rw [msK, List.length_append, msK_length b k]; rfl
def bxN (s : List UInt8) (b : List UInt8) (k : Nat) : Bx := ⟨s, 2, (k : Int) + 1, msK b k⟩
def sM (nx : Int) (bs : List Bx) : Stt := ⟨nx, [⟨aN, [112], bs⟩]⟩
def mUser : Ch := ⟨1, aN, [112], [], [], [], 0, 0, 0, []⟩
def mCreate : Ch := ⟨2, aN, [], xN, [], [], 0, 0, 0, []⟩
def mAppend (b : List UInt8) : Ch := ⟨5, aN, [], xN, [], [], 0, 0, 0, b⟩
def mRename : Ch := ⟨4, aN, [], xN, yN, [], 0, 0, 0, []⟩
def mDelete : Ch := ⟨3, aN, [], yN, [], [], 0, 0, 0, []⟩
def mDelI : Ch := ⟨3, aN, [], inboxL, [], [], 0, 0, 0, []⟩
def mRenI : Ch := ⟨4, aN, [], inboxL, zN, [], 0, 0, 0, []⟩
theorem ok_user : isC mUser = true := by kernel_rfl
theorem ok_create : isC mCreate = true := by kernel_rfl
theorem ok_rename : isC mRename = true := by kernel_rfl
theorem ok_delete : isC mDelete = true := by kernel_rfl
theorem ok_delI : isC mDelI = true := by kernel_rfl
theorem ok_renI : isC mRenI = true := by kernel_rfl
theorem ok_append {b : List UInt8} (h : b.length ≤ 500) : isC (mAppend b) = true := by
  have e0 : nameL aN = true := by decide
  have e1 : nameL xN = true := by decide
  have e2 : uidsOk [] = true := by decide
  have e4 : inR 0 0 31 = true := by decide
  have e5 : inR 0 0 1073741824 = true := by decide
  have e6 : inR 0 0 2 = true := by decide
  unfold isC mAppend
  simp [e0, e1, e2, e4, e5, e6]
  omega
def Stp (S : Stt) (c : Ch) (E N : Int) (S' : Stt) : Prop := doE S c = E ∧ stepN S c = N ∧ stepS S c = S'
theorem stp_ok {S S' : Stt} {c : Ch} {N : Int} (h : doE S c = 0) (hn : doN S c = N) (hs : doS S c = S') : Stp S c 0 N S' := ⟨h, by unfold stepN; rw [if_pos h, hn], by unfold stepS; rw [if_pos h, hs]⟩
theorem stp_no {S : Stt} {c : Ch} {E : Int} (h : doE S c = E) (he : E ≠ 0) : Stp S c E 0 S := ⟨h, by unfold stepN; rw [if_neg (by rw [h]; exact he)], by unfold stepS; rw [if_neg (by rw [h]; exact he)]⟩
def sM1 : Stt := sM 2 [bxI]
def sM2 (b : List UInt8) (k : Nat) : Stt := sM 3 [bxI, bxN xN b k]
def sM3 (b : List UInt8) (k : Nat) : Stt := sM 3 [bxI, bxN yN b k]
def sM4 (b : List UInt8) (k : Nat) : Stt := sM 4 [bxI, newB xN 3, bxN yN b k]
def sM5 : Stt := sM 4 [bxI, newB xN 3]
theorem stp_user : Stp ⟨1, []⟩ mUser 0 0 sM1 := stp_ok (by kernel_rfl) (by kernel_rfl) (by kernel_rfl)
theorem stp_create (b : List UInt8) : Stp sM1 mCreate 0 0 (sM2 b 0) := stp_ok (by kernel_rfl) (by kernel_rfl) (by kernel_rfl)
theorem addE_k {b : List UInt8} {k : Nat} (hb : b.length ≤ 500) (hk : k ≤ 10) : addE (bxN xN b k) 0 0 b.length = 0 := by
  unfold addE
  have e : markOk 0 0 = true := by decide
  rw [if_neg (by rw [e]; decide), if_neg (by omega), if_neg (by show ¬ 24 ≤ (msK b k).length; rw [msK_length]; omega), if_neg (by show ¬ (1048576 : Int) ≤ (k : Int) + 1; omega)]
theorem stp_append {b : List UInt8} {k : Nat} (hb : b.length ≤ 500) (hk : k ≤ 10) : Stp (sM2 b k) (mAppend b) 0 ((k : Int) + 1) (sM2 b (k + 1)) := by
  have ha := addE_k hb hk
  refine stp_ok ?_ (by kernel_rfl) ?_
  · exact (show doE (sM2 b k) (mAppend b) = addE (bxN xN b k) 0 0 b.length by kernel_rfl).trans ha
  · have h1 : doS (sM2 b k) (mAppend b) = (sM2 b k).having (Us.having ⟨aN, [112], [bxI, bxN xN b k]⟩ (addB (bxN xN b k) 0 0 b)) := by kernel_rfl
    rw [h1]
    unfold addB
    rw [if_pos ha]
    have h2 : (⟨(bxN xN b k).name, (bxN xN b k).val, (bxN xN b k).next + 1, (bxN xN b k).l ++ [⟨(bxN xN b k).next, 0, 0, b⟩]⟩ : Bx) = bxN xN b (k + 1) := by
      show (⟨xN, 2, (k : Int) + 1 + 1, msK b k ++ [⟨(k : Int) + 1, 0, 0, b⟩]⟩ : Bx) = ⟨xN, 2, ((k + 1 : Nat) : Int) + 1, msK b (k + 1)⟩
      rw [show ((k + 1 : Nat) : Int) = (k : Int) + 1 by omega]
      rfl
    rw [h2]
    exact (show (sM2 b k).having (Us.having ⟨aN, [112], [bxI, bxN xN b k]⟩ (bxN xN b (k + 1))) = sM2 b (k + 1) by kernel_rfl)
theorem stp_rename (b : List UInt8) (k : Nat) : Stp (sM2 b k) mRename 0 0 (sM3 b k) := stp_ok (by kernel_rfl) (by kernel_rfl) (by kernel_rfl)
theorem stp_create2 (b : List UInt8) (k : Nat) : Stp (sM3 b k) mCreate 0 0 (sM4 b k) := stp_ok (by kernel_rfl) (by kernel_rfl) (by kernel_rfl)
theorem stp_delete (b : List UInt8) (k : Nat) : Stp (sM4 b k) mDelete 0 0 sM5 := stp_ok (by kernel_rfl) (by kernel_rfl) (by kernel_rfl)
theorem stp_delI : Stp sM5 mDelI 11 0 sM5 := stp_no (by kernel_rfl) (by decide)
theorem stp_renI : Stp sM5 mRenI 11 0 sM5 := stp_no (by kernel_rfl) (by decide)
theorem get_2x (b : List UInt8) (k : Nat) : getS (sM2 b k) aN xN = some (bxN xN b k) := by kernel_rfl
theorem get_4y (b : List UInt8) (k : Nat) : getS (sM4 b k) aN yN = some (bxN yN b k) := by kernel_rfl
theorem get_4x (b : List UInt8) (k : Nat) : getS (sM4 b k) aN xN = some (newB xN 3) := by kernel_rfl
theorem get_5y : getS sM5 aN yN = none := by kernel_rfl
end Go.Proofs.YtgnilldcfpgpaaaGreatDoor
namespace Go.Proofs.YtgnilldcfpgpaaaGreatDoor
open Go.RowKit Go.Maps
def Boxd (C M : Nat → Prop) (W : World) (p : Nat) (t : ByteArray) (v x : Int) (A : Option Addr) (n c : Nat) (l : List Mg) : Prop :=
  Bk W p 71 #[.string t, .int .i64 v, .int .i64 x, .slice A n c] ∧ (C p ∧ M p) ∧ Ms (fun y => C y ∧ ¬ M y) W A n l
section
variable {w0 w w' : World} {q g d lg : Nat} {cs : Array Value} {S S' : Stt} {k : Nat} {C C' M M' : Nat → Prop} {p n c : Nat} {t : ByteArray} {v x : Int} {A : Option Addr} {l : List Mg}
theorem Boxd.only (h : Boxd C M w p t v x A n c l) {rs : List Nat} (o : Only rs w w') (hc : ∀ y, C y → y ∉ rs) : Boxd C M w' p t v x A n c l :=
  ⟨h.1.only o (hc p h.2.1.1), h.2.1, h.2.2.only o (fun y hy => hc y hy.1)⟩
theorem Boxd.keep (h : Boxd C M w p t v x A n c l) (o : Only [] w w') : Boxd C M w' p t v x A n c l := h.only o (fun _ _ hm => nomatch hm)
theorem Boxd.grow (h : Boxd C M w p t v x A n c l) (hc : ∀ y, C y → C' y) (hm : ∀ y, M y → M' y) (hn : ∀ y, M' y → M y ∨ w.heap.size ≤ y) : Boxd C' M' w p t v x A n c l :=
  ⟨h.1, ⟨hc p h.2.1.1, hm p h.2.1.2⟩, h.2.2.lt.mono (fun y hy => ⟨hc y hy.1.1, fun hm' => (hn y hm').elim hy.1.2 (fun hl => by have := hy.2; omega)⟩)⟩
theorem Boxd.turn (h : Boxd C M w p t v x A n c l) {r : Nat} (o : Only [r] w w') (hr : M r) (hp : p ≠ r) : Boxd C M w' p t v x A n c l :=
  ⟨h.1.only o (by simpa using hp), h.2.1, h.2.2.only o (fun y hy hm => by have := List.mem_singleton.1 hm; subst this; exact hy.2 hr)⟩
theorem Boxd.named (h : Boxd C M w p t v x A n c l) (u : ByteArray) : Boxd C M (w.setCell ⟨p, 0, none⟩ (.string u)) p u v x A n c l ∧ Only [p] w (w.setCell ⟨p, 0, none⟩ (.string u)) := by
  have o : Only [p] w (w.setCell ⟨p, 0, none⟩ (.string u)) := (Only.refl [p] w).setCell (p := ⟨p, 0, none⟩) (.inl List.mem_cons_self) _
  exact ⟨⟨by simpa using h.1.set 0 (.string u), h.2.1, h.2.2.only o (fun y hy hm => by have := List.mem_singleton.1 hm; subst this; exact hy.2 h.2.1.2)⟩, o⟩
theorem Ost.mc (h : Ost w0 q g d lg cs S k C M w) {y : Nat} (hy : M y) : C y := by
  obtain ⟨F, G, D, L, mu, h1, h2, h3, h4, h5, h6, h7, h9, h10, h11⟩ := h
  exact (h10 y hy).1
theorem own_do (ht : Tab w0) (hT : TabN w0) (hp : 0 < w0.heap.size) (h : Ost w0 q g d lg cs S k C M w) (hk : k < 19) (ch : Ch) (hok : isC ch = true) {E N : Int} (hs : Stp S ch E N S') {Au Ab : Option Addr} {cu cb : Nat} (hci : ChIn w ch Au Ab) :
    Calls Tryz.prog 15 #[.pointer (some ⟨g, 0, none⟩), chv ch Au cu Ab cb] w (Done w0 q g d lg cs S' k C M w E N) :=
  ost_do h hk ch hci hok (hT.keep h.only0) (Nat.lt_of_lt_of_le hp h.only0.size) (ht.keep h.only0) hs.1 hs.2.1 hs.2.2
def GotB (w0 : World) (q g d lg : Nat) (cs : Array Value) (S : Stt) (k : Nat) (C M : Nat → Prop) (t : ByteArray) (v x : Int) (n : Nat) (l : List Mg) (e : Ending) (w' : World) : Prop :=
  ∃ A c C' M', e = .returned (.tuple #[.agg #[.string t, .int .i64 v, .int .i64 x, .slice A n c], .bool true]) ∧ ((∀ y, C y → C' y) ∧ (∀ y, M y → M' y) ∧ ∀ y, M' y → M y ∨ w'.heap.size ≤ y) ∧
    Ost w0 q g d lg cs S k C' M' (w'.alloc (.cells #[.string t, .int .i64 v, .int .i64 x, .slice A n c] 71)) ∧ Boxd C' M' (w'.alloc (.cells #[.string t, .int .i64 v, .int .i64 x, .slice A n c] 71)) w'.heap.size t v x A n c l
theorem own_get (h : Ost w0 q g d lg cs S k C M w) (s u : List UInt8) (hs : s.length ≤ 140737488355328) (hu : u.length ≤ 140737488355328) {nm : List UInt8} (hg : getS S s u = some ⟨nm, v, x, l⟩) (hn : l.length = n) :
    Calls Tryz.prog 35 #[.pointer (some ⟨g, 0, none⟩), .string (St s), .string (St u)] w fun e w' => Only [] w w' ∧ GotB w0 q g d lg cs S k C M (St nm) v x n l e w' := by
  refine (ost_get h s u hs hu).mono ?_
  rintro e w' ⟨K, ⟨o, hh⟩, hkm, ho⟩
  rcases hh with ⟨h1, _⟩ | ⟨b, A, c, h1, _, rfl, hm⟩
  · rw [hg] at h1; cases h1
  · rw [hg] at h1
    obtain rfl := (Option.some.inj h1).symm
    have oa : Only [] w' (w'.alloc (.cells #[.string (St nm), .int .i64 v, .int .i64 x, .slice A n c] 71)) := (Only.refl [] w').alloc _
    have hm2 : Ms K w' A n l := by rw [← hn]; exact hm
    refine ⟨o, A, c, fun y => (C y ∨ (K y ∧ y < w'.heap.size)) ∨ y = w'.heap.size, fun y => M y ∨ y = w'.heap.size, ?_, ⟨fun y hy => .inl (.inl hy), fun y hy => .inl hy, fun y hy => hy.imp id (fun e => by omega)⟩, ?_, Bk.new w' _ _, ⟨.inr rfl, .inr rfl⟩, (hm2.lt.mono (fun y hy => ⟨.inl (.inr hy), fun hm' => hm'.elim (hkm y hy.1) (fun e => by have := hy.2; omega)⟩)).keep oa⟩
    · unfold bxv
      rw [hn]
    · refine ho.more oa (fun y hy => ?_) (fun y hy => ?_)
      · rcases hy with hy | rfl
        · exact .inl hy
        · exact .inr ⟨Nat.le_refl _, by simp⟩
      · rcases hy with hy | rfl
        · exact ⟨.inl (.inl (h.mc hy)), .inl hy⟩
        · exact ⟨.inr rfl, .inr (Nat.le_refl _)⟩
theorem own_none (h : Ost w0 q g d lg cs S k C M w) (s u : List UInt8) (hs : s.length ≤ 140737488355328) (hu : u.length ≤ 140737488355328) (hg : getS S s u = none) :
    Calls Tryz.prog 35 #[.pointer (some ⟨g, 0, none⟩), .string (St s), .string (St u)] w fun e w' => e = .returned (.tuple #[.agg #[.string ⟨#[]⟩, .int .i64 0, .int .i64 0, .slice none 0 0], .bool false]) ∧ Only [] w w' := by
  refine (ost_get h s u hs hu).mono ?_
  rintro e w' ⟨K, ⟨o, hh⟩, _, _⟩
  rcases hh with ⟨_, rfl⟩ | ⟨b, A, c, h1, _⟩
  · exact ⟨rfl, o⟩
  · rw [hg] at h1; cases h1
end
end Go.Proofs.YtgnilldcfpgpaaaGreatDoor
namespace Go.Proofs.YtgnilldcfpgpaaaGreatDoor
open Go.RowKit Go.Maps
theorem pairM_parts {w : World} {q : Nat} {a b c e : Value} (h : Bk w q 39 #[a, b, c, e]) : w.cell? ⟨q, 2, none⟩ = some c ∧ q < w.heap.size := ⟨h.cell 2, h.lt⟩
theorem same_msK {C1 C2 : Nat → Prop} {w : World} {A1 A2 : Option Addr} {b : List UInt8} {k : Nat} (h1 : Ms C1 w A1 k (msK b k)) (h2 : Ms C2 w A2 k (msK b k)) (v x : Int) (e1 e2 : Nat) (hk : k ≤ 10) :
    Calls Tryz.prog 39 #[.agg #[.string ⟨#[121]⟩, .int .i64 v, .int .i64 x, .slice A1 k e1], .agg #[.string ⟨#[121]⟩, .int .i64 v, .int .i64 x, .slice A2 k e2]] w fun e w' => e = .returned (.bool true) ∧ Only [] w w' := by
  have hl := msK_length b k
  have := refSame_any (S := C1) (S' := C2) (w := w) ⟨yN, v, x, msK b k⟩ ⟨yN, v, x, msK b k⟩ (A1 := A1) (A2 := A2) (e1 := e1) (e2 := e2) (by show Ms C1 w A1 (msK b k).length _; rw [hl]; exact h1) (by show Ms C2 w A2 (msK b k).length _; rw [hl]; exact h2) (by show (msK b k).length ≤ _; omega) (by show (msK b k).length ≤ _; omega)
  unfold bxv at this
  rw [show sameB (⟨yN, v, x, msK b k⟩ : Bx) ⟨yN, v, x, msK b k⟩ = true from decide_eq_true rfl] at this
  simp only [hl] at this
  exact this
set_option maxRecDepth 100000 in
set_option maxHeartbeats 16000000 in
theorem moves_law (w : World) (ht : Tab w) (hT : TabN w) (hpos : 0 < w.heap.size) (hrem : 1 < w.heap.size) (A : Option Addr) (n c : Nat) (l : List UInt8) (hS : Sl w A n (bvs l)) (hn : n ≤ 140737488351232) (N : Int) :
    Calls Tryz.prog 11 #[.slice A n c, .int .i64 N] w fun e w' => e = .returned (.bool true) ∧ Only [] w w' := by
  have hln : l.length = n := by have := hS.len; simpa [bvs] using this
  have HKN := Lib.hid (fun (W : World) (o : Only [] w W) => sknown_any W (ht.keep o) (hT.keep o) (Nat.lt_of_lt_of_le hpos o.size) (Nat.lt_of_lt_of_le hrem o.size))
  by_cases hfit : n ≤ 500 ∧ 0 ≤ N ∧ N ≤ 10
  rotate_left
  · have hcases : (500 : Int) < (n : Int) ∨ (¬ (500 : Int) < (n : Int) ∧ N < 0) ∨ (¬ (500 : Int) < (n : Int) ∧ ¬ N < 0 ∧ (10 : Int) < N) := by omega
    clear HKN hT hpos hrem ht hS
    rcases hcases with h1 | ⟨h1, h2⟩ | ⟨h1, h2, h3⟩
    · go_enter Tryz.func11, Tryz.ntmps11
      go_wp2
      go_ret
      exact ⟨rfl, Only.refl [] _⟩
    · go_enter Tryz.func11, Tryz.ntmps11
      go_wp2
      go_ret
      exact ⟨rfl, Only.refl [] _⟩
    · go_enter Tryz.func11, Tryz.ntmps11
      go_wp2
      go_ret
      exact ⟨rfl, Only.refl [] _⟩
  obtain ⟨hn500, hN0, hN10⟩ := hfit
  obtain ⟨nk, rfl⟩ : ∃ nk : Nat, N = (nk : Int) := ⟨N.toNat, by omega⟩
  have HBE := Lib.hid (sbegin_any ht hrem)
  have HD1 : Hid (∀ (q g d lg : Nat) (cs : Array Value) (V : World) (j : Nat) (C M : Nat → Prop), Ost w q g d lg cs ⟨1, []⟩ j C M V → j < 19 → Calls Tryz.prog 15 #[.pointer (some ⟨g, 0, none⟩), .agg #[.int .i64 1, .string ⟨#[97]⟩, .string ⟨#[112]⟩, .string ⟨#[]⟩, .string ⟨#[]⟩, .slice none 0 0, .int .i64 0, .int .i64 0, .int .i64 0, .slice none 0 0]] V (Done w q g d lg cs sM1 j C M V 0 0)) := by
    intro q g d lg cs V j C M h hj
    have := own_do ht hT hpos h hj mUser ok_user stp_user (Au := none) (Ab := none) (cu := 0) (cb := 0) ⟨Sl.none_, Sl.none_, Nat.zero_le _, by decide⟩
    exact this
  have HD2 : Hid (∀ (q g d lg : Nat) (cs : Array Value) (V : World) (j : Nat) (C M : Nat → Prop), Ost w q g d lg cs sM1 j C M V → j < 19 → Calls Tryz.prog 15 #[.pointer (some ⟨g, 0, none⟩), .agg #[.int .i64 2, .string ⟨#[97]⟩, .string ⟨#[]⟩, .string ⟨#[120]⟩, .string ⟨#[]⟩, .slice none 0 0, .int .i64 0, .int .i64 0, .int .i64 0, .slice none 0 0]] V (Done w q g d lg cs (sM2 l 0) j C M V 0 0)) := by
    intro q g d lg cs V j C M h hj
    have := own_do ht hT hpos h hj mCreate ok_create (stp_create l) (Au := none) (Ab := none) (cu := 0) (cb := 0) ⟨Sl.none_, Sl.none_, Nat.zero_le _, by decide⟩
    exact this
  have HDA : Hid (∀ (i : Nat) (_ : i ≤ 10) (q g d lg : Nat) (cs : Array Value) (V : World) (j : Nat) (C M : Nat → Prop), Ost w q g d lg cs (sM2 l i) j C M V → j < 19 → Calls Tryz.prog 15 #[.pointer (some ⟨g, 0, none⟩), .agg #[.int .i64 5, .string ⟨#[97]⟩, .string ⟨#[]⟩, .string ⟨#[120]⟩, .string ⟨#[]⟩, .slice none 0 0, .int .i64 0, .int .i64 0, .int .i64 0, .slice A n c]] V (Done w q g d lg cs (sM2 l (i + 1)) j C M V 0 ((i : Int) + 1))) := by
    intro i hi q g d lg cs V j C M h hj
    have := own_do ht hT hpos h hj (mAppend l) (ok_append (by omega)) (stp_append (by omega) hi) (Au := none) (Ab := A) (cu := 0) (cb := c) ⟨Sl.none_, by rw [show (mAppend l).body = l from rfl, hln]; exact hS.keep h.only0, Nat.zero_le _, Nat.zero_le _⟩
    unfold chv at this
    rw [show (mAppend l).body = l from rfl, hln] at this
    exact this
  have HD3 : Hid (∀ (q g d lg : Nat) (cs : Array Value) (V : World) (j : Nat) (C M : Nat → Prop), Ost w q g d lg cs (sM2 l nk) j C M V → j < 19 → Calls Tryz.prog 15 #[.pointer (some ⟨g, 0, none⟩), .agg #[.int .i64 4, .string ⟨#[97]⟩, .string ⟨#[]⟩, .string ⟨#[120]⟩, .string ⟨#[121]⟩, .slice none 0 0, .int .i64 0, .int .i64 0, .int .i64 0, .slice none 0 0]] V (Done w q g d lg cs (sM3 l nk) j C M V 0 0)) := by
    intro q g d lg cs V j C M h hj
    have := own_do ht hT hpos h hj mRename ok_rename (stp_rename l nk) (Au := none) (Ab := none) (cu := 0) (cb := 0) ⟨Sl.none_, Sl.none_, Nat.zero_le _, by decide⟩
    exact this
  have HD4 : Hid (∀ (q g d lg : Nat) (cs : Array Value) (V : World) (j : Nat) (C M : Nat → Prop), Ost w q g d lg cs (sM3 l nk) j C M V → j < 19 → Calls Tryz.prog 15 #[.pointer (some ⟨g, 0, none⟩), .agg #[.int .i64 2, .string ⟨#[97]⟩, .string ⟨#[]⟩, .string ⟨#[120]⟩, .string ⟨#[]⟩, .slice none 0 0, .int .i64 0, .int .i64 0, .int .i64 0, .slice none 0 0]] V (Done w q g d lg cs (sM4 l nk) j C M V 0 0)) := by
    intro q g d lg cs V j C M h hj
    have := own_do ht hT hpos h hj mCreate ok_create (stp_create2 l nk) (Au := none) (Ab := none) (cu := 0) (cb := 0) ⟨Sl.none_, Sl.none_, Nat.zero_le _, by decide⟩
    exact this
  have HD5 : Hid (∀ (q g d lg : Nat) (cs : Array Value) (V : World) (j : Nat) (C M : Nat → Prop), Ost w q g d lg cs (sM4 l nk) j C M V → j < 19 → Calls Tryz.prog 15 #[.pointer (some ⟨g, 0, none⟩), .agg #[.int .i64 3, .string ⟨#[97]⟩, .string ⟨#[]⟩, .string ⟨#[121]⟩, .string ⟨#[]⟩, .slice none 0 0, .int .i64 0, .int .i64 0, .int .i64 0, .slice none 0 0]] V (Done w q g d lg cs sM5 j C M V 0 0)) := by
    intro q g d lg cs V j C M h hj
    have := own_do ht hT hpos h hj mDelete ok_delete (stp_delete l nk) (Au := none) (Ab := none) (cu := 0) (cb := 0) ⟨Sl.none_, Sl.none_, Nat.zero_le _, by decide⟩
    exact this
  have HD6 : Hid (∀ (q g d lg : Nat) (cs : Array Value) (V : World) (j : Nat) (C M : Nat → Prop), Ost w q g d lg cs sM5 j C M V → j < 19 → Calls Tryz.prog 15 #[.pointer (some ⟨g, 0, none⟩), .agg #[.int .i64 3, .string ⟨#[97]⟩, .string ⟨#[]⟩, .string ⟨#[105, 110, 98, 111, 120]⟩, .string ⟨#[]⟩, .slice none 0 0, .int .i64 0, .int .i64 0, .int .i64 0, .slice none 0 0]] V (Done w q g d lg cs sM5 j C M V 11 0)) := by
    intro q g d lg cs V j C M h hj
    have := own_do ht hT hpos h hj mDelI ok_delI stp_delI (Au := none) (Ab := none) (cu := 0) (cb := 0) ⟨Sl.none_, Sl.none_, Nat.zero_le _, by decide⟩
    exact this
  have HD7 : Hid (∀ (q g d lg : Nat) (cs : Array Value) (V : World) (j : Nat) (C M : Nat → Prop), Ost w q g d lg cs sM5 j C M V → j < 19 → Calls Tryz.prog 15 #[.pointer (some ⟨g, 0, none⟩), .agg #[.int .i64 4, .string ⟨#[97]⟩, .string ⟨#[]⟩, .string ⟨#[105, 110, 98, 111, 120]⟩, .string ⟨#[122]⟩, .slice none 0 0, .int .i64 0, .int .i64 0, .int .i64 0, .slice none 0 0]] V (Done w q g d lg cs sM5 j C M V 11 0)) := by
    intro q g d lg cs V j C M h hj
    have := own_do ht hT hpos h hj mRenI ok_renI stp_renI (Au := none) (Ab := none) (cu := 0) (cb := 0) ⟨Sl.none_, Sl.none_, Nat.zero_le _, by decide⟩
    exact this
  have HG1 : Hid (∀ (q g d lg : Nat) (cs : Array Value) (V : World) (j : Nat) (C M : Nat → Prop), Ost w q g d lg cs (sM2 l nk) j C M V → Calls Tryz.prog 35 #[.pointer (some ⟨g, 0, none⟩), .string ⟨#[97]⟩, .string ⟨#[120]⟩] V fun e w' => Only [] V w' ∧ GotB w q g d lg cs (sM2 l nk) j C M ⟨#[120]⟩ 2 ((nk : Int) + 1) nk (msK l nk) e w') := by
    intro q g d lg cs V j C M h
    have := own_get h aN xN (by decide) (by decide) (get_2x l nk) (msK_length l nk)
    exact this
  have HG2 : Hid (∀ (q g d lg : Nat) (cs : Array Value) (V : World) (j : Nat) (C M : Nat → Prop), Ost w q g d lg cs (sM4 l nk) j C M V → Calls Tryz.prog 35 #[.pointer (some ⟨g, 0, none⟩), .string ⟨#[97]⟩, .string ⟨#[121]⟩] V fun e w' => Only [] V w' ∧ GotB w q g d lg cs (sM4 l nk) j C M ⟨#[121]⟩ 2 ((nk : Int) + 1) nk (msK l nk) e w') := by
    intro q g d lg cs V j C M h
    have := own_get h aN yN (by decide) (by decide) (get_4y l nk) (msK_length l nk)
    exact this
  have HG3 : Hid (∀ (q g d lg : Nat) (cs : Array Value) (V : World) (j : Nat) (C M : Nat → Prop), Ost w q g d lg cs (sM4 l nk) j C M V → Calls Tryz.prog 35 #[.pointer (some ⟨g, 0, none⟩), .string ⟨#[97]⟩, .string ⟨#[120]⟩] V fun e w' => Only [] V w' ∧ GotB w q g d lg cs (sM4 l nk) j C M ⟨#[120]⟩ 3 1 0 [] e w') := by
    intro q g d lg cs V j C M h
    have := own_get h aN xN (by decide) (by decide) (get_4x l nk) rfl
    exact this
  have HG4 : Hid (∀ (q g d lg : Nat) (cs : Array Value) (V : World) (j : Nat) (C M : Nat → Prop), Ost w q g d lg cs sM5 j C M V → Calls Tryz.prog 35 #[.pointer (some ⟨g, 0, none⟩), .string ⟨#[97]⟩, .string ⟨#[121]⟩] V fun e w' => e = .returned (.tuple #[.agg #[.string ⟨#[]⟩, .int .i64 0, .int .i64 0, .slice none 0 0], .bool false]) ∧ Only [] V w') := by
    intro q g d lg cs V j C M h
    have := own_none h aN yN (by decide) (by decide) get_5y
    exact this
  clear ht hT hpos hrem hS
  have g1 : ¬ (500 : Int) < (n : Int) := by omega
  have g2 : ¬ ((nk : Int) < 0) := by omega
  have g3 : ¬ (10 : Int) < (nk : Int) := by omega
  go_enter Tryz.func11, Tryz.ntmps11
  go_upto_region 6 with (go_at_call 14; refine HBE.out.mono ?_; clear HBE; intro e w1 hbg; have HBG := Lib.hid hbg; obtain ⟨q, d0, x0, g0, t0, lg0, F0, G0, rg0, rfl, _⟩ := hbg)
  obtain ⟨d, x, g, t, lg, HO0⟩ := ost_begin HBG.out
  have HO1 := Lib.hid HO0
  clear HBG HO0
  generalize hcs : (#[.pointer (some ⟨d, 0, none⟩), .pointer (some ⟨x, 0, none⟩), .pointer (some ⟨g, 0, none⟩), .pointer (some ⟨t, 0, none⟩)] : Array Value) = cs at HO1
  have HPQ : Hid (∀ (S : Stt) (k : Nat) (C M : Nat → Prop) (V : World), Ost w q g d lg cs S k C M V → V.cell? ⟨q, 2, none⟩ = some (.pointer (some ⟨g, 0, none⟩)) ∧ q < V.heap.size) := fun S k C M V h => by
    have hp := h.pair
    rw [← hcs] at hp
    exact pairM_parts hp
  clear hcs
  obtain ⟨q2, ql⟩ := HPQ.out _ _ _ _ _ HO1.out
  go_upto_region 7 with (go_at_call 15; refine (HD1.out _ _ _ _ _ _ _ _ _ HO1.out (by decide)).mono ?_; rintro e w2 ⟨rfl, k2, rs2, hk2, HO, hr, hc⟩)
  have HO2 := Lib.hid HO
  have HR2 := Lib.hid hr
  have HC2 := Lib.hid hc
  clear q2 ql HO hr hc
  obtain ⟨q2, ql⟩ := HPQ.out _ _ _ _ _ HO2.out
  go_upto_region 8 with (go_at_call 15; refine (HD2.out _ _ _ _ _ _ _ _ _ HO2.out (by omega)).mono ?_; rintro e w3 ⟨rfl, k3, rs3, hk3, HO, hr, hc⟩)
  have HO3 := Lib.hid HO
  have HR3 := Lib.hid hr
  have HC3 := Lib.hid hc
  clear q2 ql HO hr hc
  go_upto_region 9 with fail
  go_loopw [6] (fun i wr => ∃ (k k' : Nat), k ≤ nk ∧ k' ≤ k + 2 ∧ i = .int .i64 (k : Int) ∧ Hid (Ost w q g d lg cs (sM2 l k) k' (fun _ => False) (fun _ => False) wr)) (fun i _ => nk - (intOf i).toNat)
  case atStart => exact ⟨0, k3, Nat.zero_le _, by omega, rfl, HO3⟩
  case round =>
    obtain ⟨k, k4, hk, hk4, rfl, HO4⟩ := hrel
    obtain ⟨q2, ql⟩ := HPQ.out _ _ _ _ _ HO4.out
    by_cases hlt : k < nk
    · have h1 : (k : Int) < (nk : Int) := by omega
      go_wp2_with (go_at_call 15; refine (HDA.out k (by omega) _ _ _ _ _ _ _ _ _ HO4.out (by omega)).mono ?_; rintro e w5 ⟨rfl, k5, rs5, hk5, HO, hr, hc⟩)
      have HO5 := Lib.hid HO
      clear HO hr hc
      go_roundw
      case rel => exact ⟨k + 1, k5, by omega, by omega, by go_num, HO5⟩
      case measure => simp [intOf]; omega
    · have h1 : ¬ ((k : Int) < (nk : Int)) := by omega
      obtain rfl : k = nk := by omega
      go_upto_region 12 with fail
      obtain ⟨q2, ql⟩ := HPQ.out _ _ _ _ _ HO4.out
      go_upto_region 13 with (go_at_call 35; refine (HG1.out _ _ _ _ _ _ _ _ _ HO4.out).mono ?_; rintro e w5 ⟨hr, A7, c7, C7, M7, rfl, hc, HO, hb⟩)
      have HO5 := Lib.hid HO
      have HB7 := Lib.hid hb
      have HR5 := Lib.hid (hr.then ((Only.refl [] _).alloc (.cells #[.string ⟨#[120]⟩, .int .i64 2, .int .i64 ((k : Int) + 1), .slice A7 k c7] 71)))
      have HC5 := Lib.hid hc
      clear q2 ql HO hb hr hc HC5
      generalize hb7 : w5.heap.size = b7 at HB7  ⊢
      generalize w5.alloc (.cells #[.string ⟨#[120]⟩, .int .i64 2, .int .i64 ((k : Int) + 1), .slice A7 k c7] 71) = W5 at HO5 HR5 HB7 ⊢
      clear hb7
      obtain ⟨q2, ql⟩ := HPQ.out _ _ _ _ _ HO5.out
      go_upto_region 14 with (go_at_call 15; refine (HD3.out _ _ _ _ _ _ _ _ _ HO5.out (by omega)).mono ?_; rintro e w6 ⟨rfl, k6, rs6, hk6, HO, hr, hc⟩)
      have HO6 := Lib.hid HO
      have HR6 := Lib.hid hr
      have HC6 := Lib.hid hc
      clear q2 ql HO hr hc
      replace HB7 := Lib.hid (HB7.out.only HR6.out HC6.out)
      obtain ⟨q2, ql⟩ := HPQ.out _ _ _ _ _ HO6.out
      go_upto_region 15 with (go_at_call 15; refine (HD4.out _ _ _ _ _ _ _ _ _ HO6.out (by omega)).mono ?_; rintro e w7 ⟨rfl, k7, rs7, hk7, HO, hr, hc⟩)
      have HO7 := Lib.hid HO
      have HR7 := Lib.hid hr
      have HC7 := Lib.hid hc
      clear q2 ql HO hr hc
      replace HB7 := Lib.hid (HB7.out.only HR7.out HC7.out)
      obtain ⟨q2, ql⟩ := HPQ.out _ _ _ _ _ HO7.out
      go_upto_region 16 with (go_at_call 35; refine (HG2.out _ _ _ _ _ _ _ _ _ HO7.out).mono ?_; rintro e w8 ⟨hr, A13, c13, C13, M13, rfl, hc, HO, hb⟩)
      have HO8 := Lib.hid HO
      have HB13 := Lib.hid hb
      have HR8 := Lib.hid (hr.then ((Only.refl [] _).alloc (.cells #[.string ⟨#[121]⟩, .int .i64 2, .int .i64 ((k : Int) + 1), .slice A13 k c13] 71)))
      have hlt7_13 : b7 < w8.heap.size := Nat.lt_of_lt_of_le HB7.out.1.lt hr.size
      have HC8 := Lib.hid hc
      replace HB7 := Lib.hid ((HB7.out.grow HC8.out.1 HC8.out.2.1 (fun y hy => (HC8.out.2.2 y hy).imp id (fun h => Nat.le_trans hr.size h))).keep HR8.out)
      clear q2 ql HO hb hr hc HC8
      generalize hb13 : w8.heap.size = b13 at HB13 hlt7_13 ⊢
      generalize w8.alloc (.cells #[.string ⟨#[121]⟩, .int .i64 2, .int .i64 ((k : Int) + 1), .slice A13 k c13] 71) = W8 at HO8 HR8 HB7 HB13 ⊢
      clear hb13
      obtain ⟨q2, ql⟩ := HPQ.out _ _ _ _ _ HO8.out
      go_upto_region 17 with (go_at_call 35; refine (HG3.out _ _ _ _ _ _ _ _ _ HO8.out).mono ?_; rintro e w9 ⟨hr, A15, c15, C15, M15, rfl, hc, HO, hb⟩)
      have HO9 := Lib.hid HO
      have HB15 := Lib.hid hb
      have HR9 := Lib.hid (hr.then ((Only.refl [] _).alloc (.cells #[.string ⟨#[120]⟩, .int .i64 3, .int .i64 1, .slice A15 0 c15] 71)))
      have hlt7_15 : b7 < w9.heap.size := Nat.lt_of_lt_of_le HB7.out.1.lt hr.size
      have hlt13_15 : b13 < w9.heap.size := Nat.lt_of_lt_of_le HB13.out.1.lt hr.size
      have HC9 := Lib.hid hc
      replace HB7 := Lib.hid ((HB7.out.grow HC9.out.1 HC9.out.2.1 (fun y hy => (HC9.out.2.2 y hy).imp id (fun h => Nat.le_trans hr.size h))).keep HR9.out)
      replace HB13 := Lib.hid ((HB13.out.grow HC9.out.1 HC9.out.2.1 (fun y hy => (HC9.out.2.2 y hy).imp id (fun h => Nat.le_trans hr.size h))).keep HR9.out)
      clear q2 ql HO hb hr hc HC9
      generalize hb15 : w9.heap.size = b15 at HB15 hlt7_15 hlt13_15 ⊢
      generalize w9.alloc (.cells #[.string ⟨#[120]⟩, .int .i64 3, .int .i64 1, .slice A15 0 c15] 71) = W9 at HO9 HR9 HB7 HB13 HB15 ⊢
      clear hb15
      obtain ⟨q2, ql⟩ := HPQ.out _ _ _ _ _ HO9.out
      go_upto_region 18 with (go_at_call 15; refine (HD5.out _ _ _ _ _ _ _ _ _ HO9.out (by omega)).mono ?_; rintro e w10 ⟨rfl, k10, rs10, hk10, HO, hr, hc⟩)
      have HO10 := Lib.hid HO
      have HR10 := Lib.hid hr
      have HC10 := Lib.hid hc
      clear q2 ql HO hr hc
      replace HB7 := Lib.hid (HB7.out.only HR10.out HC10.out)
      replace HB13 := Lib.hid (HB13.out.only HR10.out HC10.out)
      replace HB15 := Lib.hid (HB15.out.only HR10.out HC10.out)
      obtain ⟨q2, ql⟩ := HPQ.out _ _ _ _ _ HO10.out
      go_upto_region 19 with (go_at_call 35; refine (HG4.out _ _ _ _ _ _ _ _ _ HO10.out).mono ?_; rintro e w11 ⟨rfl, hr⟩)
      have HR11 := Lib.hid (hr.then ((Only.refl [] _).alloc (.cells #[.string ⟨#[]⟩, .int .i64 0, .int .i64 0, .slice none 0 0] 71)))
      clear q2 ql hr
      generalize w11.heap.size = b19
      generalize w11.alloc (.cells #[.string ⟨#[]⟩, .int .i64 0, .int .i64 0, .slice none 0 0] 71) = W11 at HR11 ⊢
      have HO11 := Lib.hid (HO10.out.keep HR11.out)
      have hk11 : k10 ≤ 16 := by omega
      replace HB7 := Lib.hid (HB7.out.keep HR11.out)
      replace HB13 := Lib.hid (HB13.out.keep HR11.out)
      replace HB15 := Lib.hid (HB15.out.keep HR11.out)
      obtain ⟨q2, ql⟩ := HPQ.out _ _ _ _ _ HO11.out
      go_upto_region 20 with (go_at_call 15; refine (HD6.out _ _ _ _ _ _ _ _ _ HO11.out (by omega)).mono ?_; rintro e w12 ⟨rfl, k12, rs12, hk12, HO, hr, hc⟩)
      have HO12 := Lib.hid HO
      have HR12 := Lib.hid hr
      have HC12 := Lib.hid hc
      clear q2 ql HO hr hc
      replace HB7 := Lib.hid (HB7.out.only HR12.out HC12.out)
      replace HB13 := Lib.hid (HB13.out.only HR12.out HC12.out)
      replace HB15 := Lib.hid (HB15.out.only HR12.out HC12.out)
      obtain ⟨q2, ql⟩ := HPQ.out _ _ _ _ _ HO12.out
      go_upto_region 21 with (go_at_call 15; refine (HD7.out _ _ _ _ _ _ _ _ _ HO12.out (by omega)).mono ?_; rintro e w13 ⟨rfl, k13, rs13, hk13, HO, hr, hc⟩)
      have HO13 := Lib.hid HO
      have HR13 := Lib.hid hr
      have HC13 := Lib.hid hc
      clear q2 ql HO hr hc
      replace HB7 := Lib.hid (HB7.out.only HR13.out HC13.out)
      replace HB13 := Lib.hid (HB13.out.only HR13.out HC13.out)
      replace HB15 := Lib.hid (HB15.out.only HR13.out HC13.out)
      have hne13 : b13 ≠ b7 := by omega
      have hne15 : b15 ≠ b7 := by omega
      have hn1 := HB7.out.named ⟨#[121]⟩
      have HN7 := Lib.hid hn1.1
      have HN13 := Lib.hid (HB13.out.turn hn1.2 HB7.out.2.1.2 hne13)
      have HN15 := Lib.hid (HB15.out.turn hn1.2 HB7.out.2.1.2 hne15)
      have HON := Lib.hid (HO13.out.turn hn1.2 (fun y hy => by have := List.mem_singleton.1 hy; subst this; exact HB7.out.2.1.2))
      have HSM := Lib.hid (same_msK HN13.out.2.2 HN7.out.2.2 2 ((k : Int) + 1) c13 c7 (by omega))
      have HQN : Hid (Only [] w (w13.setCell ⟨b7, 0, none⟩ (.string ⟨#[121]⟩))) := HON.out.only0
      obtain ⟨a0, a1, a2, a3⟩ := bk_four HB7.out.1
      have af := HB7.out.1.free 0
      have al := HB7.out.1.lt
      clear hn1
      go_upto_region 22 with fail
      generalize w13.setCell ⟨b7, 0, none⟩ (.string ⟨#[121]⟩) = w14 at HN7 HN13 HN15 HON HSM HQN ⊢
      clear a0 a1 a2 a3 af al
      obtain ⟨a0, a1, a2, a3⟩ := bk_four HN7.out.1
      have al := HN7.out.1.lt
      obtain ⟨y0, y1, y2, y3⟩ := bk_four HN13.out.1
      have yl := HN13.out.1.lt
      obtain ⟨z0, z1, z2, z3⟩ := bk_four HN15.out.1
      have zl := HN15.out.1.lt
      go_wp2_with (first
        | (go_at_call 39; refine HSM.out.mono ?_; rintro e w15 ⟨rfl, O15⟩; clear a0 a1 a2 a3 al y0 y1 y2 y3 yl z0 z1 z2 z3 zl; have N13 := HN13.out.keep O15; have N15 := HN15.out.keep O15; obtain ⟨y0, y1, y2, y3⟩ := bk_four N13.1; have yl := N13.1.lt; obtain ⟨z0, z1, z2, z3⟩ := bk_four N15.1; have zl := N15.1.lt)
        | (go_at_call 23; refine (HKN.out w15 (HQN.out.then O15)).mono ?_; rintro e w16 ⟨rfl, O16⟩))
      go_ret
      exact ⟨rfl, (HQN.out.then O15).then O16⟩
end Go.Proofs.YtgnilldcfpgpaaaGreatDoor
