/-
  Texts of the seat, laid one behind the other: SOwn Call1 SUsm SUsers.
-/
import Derived.Test.YtgnilldcfpgpaaaGreatDoorU20
import Derived.Test.YtgnilldcfpgpaaaGreatDoorU19
import Derived.Test.YtgnilldcfpgpaaaGreatDoorU4
namespace Go.Proofs.YtgnilldcfpgpaaaGreatDoor
open Go.RowKit Go.Maps
def Ost (w0 : World) (q g d lg : Nat) (cs : Array Value) (S : Stt) (k : Nat) (C M : Nat → Prop) (w : World) : Prop :=
  ∃ F G D L mu, StoreIs w g d lg (imgName mailN) (logName mailN) F G D L S mu false ∧ Calm D (logName mailN) L k ∧ Only [] w0 w ∧ (∀ x ∈ F, w0.heap.size ≤ x) ∧ (∀ x ∈ G, w0.heap.size ≤ x) ∧ w0.heap.size ≤ g ∧ (Bk w q 39 cs ∧ q ∉ F ∧ q ∉ G ∧ q ≠ g) ∧ (∀ x, C x → x < w.heap.size ∧ x ∉ F ∧ x ∉ G ∧ x ≠ g) ∧ (∀ x, M x → C x ∧ x ≠ q ∧ w0.heap.size ≤ x) ∧ StIs (fun y => StK F G g y ∧ ¬ M y) w mu S
section
variable {w0 w w' : World} {q g d lg : Nat} {cs : Array Value} {S : Stt} {k : Nat} {C C' M M' : Nat → Prop}
theorem Ost.keep (h : Ost w0 q g d lg cs S k C M w) (o : Only [] w w') : Ost w0 q g d lg cs S k C M w' := by
  obtain ⟨F, G, D, L, mu, h1, h2, h3, h4, h5, h6, ⟨h7, h8⟩, h9, h10, h11⟩ := h
  exact ⟨F, G, D, L, mu, h1.keep o, h2, h3.then o, h4, h5, h6, ⟨h7.only o (by simp), h8⟩, fun x hx => ⟨Nat.lt_of_lt_of_le (h9 x hx).1 o.size, (h9 x hx).2⟩, h10, h11.keep o⟩
theorem Ost.more (h : Ost w0 q g d lg cs S k C M w) (o : Only [] w w') (hc : ∀ x, C' x → C x ∨ (w.heap.size ≤ x ∧ x < w'.heap.size)) (hm : ∀ x, M' x → C' x ∧ (M x ∨ w.heap.size ≤ x)) : Ost w0 q g d lg cs S k C' M' w' := by
  obtain ⟨F, G, D, L, mu, h1, h2, h3, h4, h5, h6, ⟨h7, h8⟩, h9, h10, h11⟩ := h
  have hql := h7.lt
  have hsz := h3.size
  refine ⟨F, G, D, L, mu, h1.keep o, h2, h3.then o, h4, h5, h6, ⟨h7.only o (by simp), h8⟩, fun x hx => ?_, fun x hx => ⟨(hm x hx).1, ?_⟩, (h11.mono (fun y hl hy => ⟨hy.1, fun hm' => ?_⟩)).keep o⟩
  · rcases hc x hx with hx | ⟨hx, hl⟩
    · exact ⟨Nat.lt_of_lt_of_le (h9 x hx).1 o.size, (h9 x hx).2⟩
    · refine ⟨hl, fun hm => ?_, fun hm => ?_, fun hm => ?_⟩
      · have := h1.dk.lt hm; omega
      · have := h1.lgr.lt hm; omega
      · have := h1.bk.lt; omega
  · rcases (hm x hx).2 with h | h
    · exact (h10 x h).2
    · exact ⟨by omega, by omega⟩
  · rcases (hm y hm').2 with h | h
    · exact hy.2 h
    · omega
theorem Ost.turn (h : Ost w0 q g d lg cs S k C M w) {rs : List Nat} (o : Only rs w w') (hc : ∀ x ∈ rs, M x) : Ost w0 q g d lg cs S k C M w' := by
  obtain ⟨F, G, D, L, mu, h1, h2, h3, h4, h5, h6, ⟨h7, h8⟩, h9, h10, h11⟩ := h
  have hC : ∀ x ∈ rs, C x := fun x hx => (h10 x (hc x hx)).1
  have hF : ∀ x ∈ F, x ∉ rs := fun x hx hr => (h9 x (hC x hr)).2.1 hx
  have hG : ∀ x ∈ G, x ∉ rs := fun x hx hr => (h9 x (hC x hr)).2.2.1 hx
  have hg : g ∉ rs := fun hr => (h9 g (hC g hr)).2.2.2 rfl
  have hst : StIs (fun y => StK F G g y ∧ ¬ M y) w' mu S := h11.only o (fun x hx hr => hx.2 (hc x hr))
  exact ⟨F, G, D, L, mu, ⟨h1.bk.only o hg, h1.dk.only o hF, h1.lgr.only o hG, h1.fg, hst.mono (fun y _ hy => hy.1), h1.own, h1.good⟩, h2, h3.trans o (fun x hx => .inr (h10 x (hc x hx)).2.2), h4, h5, h6, ⟨h7.only o (fun hr => (h10 q (hc q hr)).2.1 rfl), h8⟩, fun x hx => ⟨Nat.lt_of_lt_of_le (h9 x hx).1 o.size, (h9 x hx).2⟩, h10, hst⟩
theorem Ost.only0 (h : Ost w0 q g d lg cs S k C M w) : Only [] w0 w := by
  obtain ⟨F, G, D, L, mu, h1, h2, h3, _⟩ := h
  exact h3
theorem Ost.pair (h : Ost w0 q g d lg cs S k C M w) : Bk w q 39 cs := by
  obtain ⟨F, G, D, L, mu, h1, h2, h3, h4, h5, h6, ⟨h7, _⟩, _, _, _⟩ := h
  exact h7
theorem Ost.good (h : Ost w0 q g d lg cs S k C M w) : GoodS S := by
  obtain ⟨F, G, D, L, mu, h1, _⟩ := h
  exact h1.good
theorem ost_begin (h : Began w0 D0 (.returned (.pointer (some ⟨q, 0, none⟩))) w) : ∃ d x g t lg, Ost w0 q g d lg #[.pointer (some ⟨d, 0, none⟩), .pointer (some ⟨x, 0, none⟩), .pointer (some ⟨g, 0, none⟩), .pointer (some ⟨t, 0, none⟩)] ⟨1, []⟩ 0 (fun _ => False) (fun _ => False) w := by
  obtain ⟨q', d, x, g, t, lg, F, G, rg, he, Q, s1, _, _, O, hF, hG, hg, n1, n2, n3⟩ := h
  have : q = q' := by
    injection he with he
    injection he with he
    injection he with he
    injection he
  subst this
  exact ⟨d, x, g, t, lg, F, G, D0, L0, none, s1, calm_0, O, hF, hG, hg, ⟨Q, n1, n2, n3⟩, fun _ h => h.elim, fun _ h => h.elim, s1.st.mono (fun y _ hy => ⟨hy, fun h => h⟩)⟩
def stepS (S : Stt) (c : Ch) : Stt := if doE S c = 0 then doS S c else S
def stepN (S : Stt) (c : Ch) : Int := if doE S c = 0 then doN S c else 0
def Done (w0 : World) (q g d lg : Nat) (cs : Array Value) (S : Stt) (k : Nat) (C M : Nat → Prop) (w : World) (E N : Int) (e : Ending) (w' : World) : Prop :=
  e = .returned (.tuple #[.int .i64 N, .int .i64 E]) ∧ ∃ k' rs, k' ≤ k + 1 ∧ Ost w0 q g d lg cs S k' C M w' ∧ Only rs w w' ∧ ∀ x, C x → x ∉ rs
theorem ost_do (h : Ost w0 q g d lg cs S k C M w) (hk : k < 19) (ch : Ch) {Au Ab : Option Addr} {cu cb : Nat} (hci : ChIn w ch Au Ab) (hok : isC ch = true)
    (hT : TabN w) (hpos : 0 < w.heap.size) (ht : Tab w) {E N : Int} {S' : Stt} (hE : doE S ch = E) (hN : stepN S ch = N) (hS : stepS S ch = S') :
    Calls Tryz.prog 15 #[.pointer (some ⟨g, 0, none⟩), chv ch Au cu Ab cb] w (Done w0 q g d lg cs S' k C M w E N) := by
  subst hE hN hS
  obtain ⟨F, G, D, L, mu, h1, h2, h3, h4, h5, h6, ⟨h7, h8⟩, h9, h10, h11⟩ := h
  obtain ⟨i1, i2, i3, i4, i5, i6, i7, i8, i9, i10⟩ := isC_small hok
  by_cases he : doE S ch = 0
  · obtain ⟨ca, hc⟩ := calm_step h2 log_ok (by omega) (encC ch) (by have := encC_le hok; omega)
    refine (Do_okP (P := fun y => ¬ M y) (fun y hy hm => by have := (h9 y (h10 y hm).1).1; omega) h11 h1 ch (Au := Au) (Ab := Ab) (cu := cu) (cb := cb) ⟨i2, i4⟩ hci (by omega) hT hpos ht hok he ca (by rw [hc.es]; omega) (good_do h1.good hok he)).mono ?_
    intro e w' hd
    obtain ⟨rfl, F', G', mu', t1, t2, t3, t4, t5⟩ := hd
    obtain ⟨_, F2, G2, mu2, s1, s2, s3, s4, s5, s6⟩ := do_new (e := .returned (.tuple #[.int .i64 (doN S ch), .int .i64 0])) h3 h4 h5 h6 h7 h8 ⟨rfl, F', G', mu', t1, t2, t3, t4⟩
    have hF' : ∀ x ∈ F', w0.heap.size ≤ x := fun x hx => (t3 x hx).elim (h4 x) (fun h => Nat.le_trans h3.size h)
    have hG' : ∀ x ∈ G', w0.heap.size ≤ x := fun x hx => (t4 x hx).elim (h5 x) (fun h => Nat.le_trans h3.size h)
    have hql := h7.lt
    have hfar : ∀ x, x < w.heap.size ∧ x ∉ F ∧ x ∉ G ∧ x ≠ g → x ∉ g :: (F ++ G) := fun x hx hm => by
      rcases List.mem_cons.1 hm with h | hm
      · exact hx.2.2.2 h
      · rcases List.mem_append.1 hm with h | h
        · exact hx.2.1 h
        · exact hx.2.2.1 h
    refine ⟨by unfold stepN; rw [if_pos he, he], k + 1, g :: (F ++ G), Nat.le_refl _, ?_, t2, fun x hx => hfar x (h9 x hx)⟩
    unfold stepS
    rw [if_pos he]
    refine ⟨F', G', _, _, mu', t1, hc, s2, hF', hG', h6, ⟨s5, fun hm => ?_, fun hm => ?_, h8.2.2⟩, fun x hx => ⟨Nat.lt_of_lt_of_le (h9 x hx).1 t2.size, fun hm => ?_, fun hm => ?_, (h9 x hx).2.2.2⟩, h10, t5⟩
    · rcases t3 q hm with h | h
      · exact h8.1 h
      · omega
    · rcases t4 q hm with h | h
      · exact h8.2.1 h
      · omega
    · have := (h9 x hx).1
      rcases t3 x hm with h | h
      · exact (h9 x hx).2.1 h
      · omega
    · have := (h9 x hx).1
      rcases t4 x hm with h | h
      · exact (h9 x hx).2.2.1 h
      · omega
  · refine (Do_refused h1 ch (Au := Au) (Ab := Ab) (cu := cu) (cb := cb) ⟨i2, i4⟩ hci (by omega) hT hpos hok he).mono ?_
    rintro e w' ⟨rfl, o⟩
    refine ⟨by unfold stepN; rw [if_neg he], k, [], by omega, ?_, o, fun _ _ hm => nomatch hm⟩
    unfold stepS
    rw [if_neg he]
    exact Ost.keep ⟨F, G, D, L, mu, h1, h2, h3, h4, h5, h6, ⟨h7, h8⟩, h9, h10, h11⟩ o
theorem ost_get (h : Ost w0 q g d lg cs S k C M w) (s t : List UInt8) (hs : s.length ≤ 140737488355328) (ht : t.length ≤ 140737488355328) :
    Calls Tryz.prog 35 #[.pointer (some ⟨g, 0, none⟩), .string (St s), .string (St t)] w fun e w' => ∃ K : Nat → Prop, Got K S s t w e w' ∧ Ost w0 q g d lg cs S k (fun y => C y ∨ (K y ∧ y < w'.heap.size)) M w' := by
  obtain ⟨F, G, D, L, mu, h1, h2, h3, h4, h5, h6, h7, h9, h10, h11⟩ := h
  refine (Get_any (K := StK F G g) h1 (fun y hy => ⟨fun hm => ?_, fun hm => ?_, fun hm => ?_⟩) (fun y _ hy => hy) s t hs ht).mono ?_
  · have := h1.dk.lt hm; omega
  · have := h1.lgr.lt hm; omega
  · have := h1.bk.lt; omega
  · intro e w' hg
    have o := hg.1
    refine ⟨_, hg, F, G, D, L, mu, h1.keep o, h2, h3.then o, h4, h5, h6, ⟨h7.1.only o (by simp), h7.2⟩, fun x hx => ?_, fun x hx => ⟨.inl (h10 x hx).1, (h10 x hx).2⟩, h11.keep o⟩
    rcases hx with hx | ⟨hx, hl⟩
    · exact ⟨Nat.lt_of_lt_of_le (h9 x hx).1 o.size, (h9 x hx).2⟩
    · exact ⟨hl, hx⟩
set_option maxRecDepth 100000 in
theorem ost_users (h : Ost w0 q g d lg cs S k C M w) :
    Calls Tryz.prog 34 #[.pointer (some ⟨g, 0, none⟩)] w fun e w' => ∃ A c, e = .returned (.slice A S.us.length c) ∧ Own w' 9 A S.us.length c (S.us.map fun u => .string (St u.name)) ∧ Only [] w w' := by
  obtain ⟨F, G, D, L, mu, h1, _⟩ := h
  obtain ⟨us, hus, hmap⟩ := h1.st
  have hfew := h1.good.few
  have hlen : us.length = S.us.length := by rw [← hmap, List.length_map]
  have hn := namesU_any hus.1 (by rw [List.length_map]; omega)
  have hkv : (us.map kvU).map Prod.fst = S.us.map fun u => St u.name := by rw [← hmap]; simp [kvU, Lu.us]
  have HN : Hid (Calls Tryz.prog 81 #[.map mu] w fun e w' => ∃ A c, e = .returned (.slice A S.us.length c) ∧ Own w' 9 A S.us.length c (S.us.map fun u => .string (St u.name)) ∧ Only [] w w') := by
    refine hn.mono ?_
    unfold Names
    rw [hkv]
    rintro e w' ⟨A, c, rfl, ho, hq, _⟩
    rw [List.length_map] at ho ⊢
    rw [List.map_map] at ho
    exact ⟨A, c, rfl, ho, hq⟩
  obtain ⟨c0, c1, c2, c3⟩ := bk_four h1.bk
  have hgl := h1.bk.lt
  clear h1 hus hmap hfew hlen hn hkv
  go_enter Tryz.func34, Tryz.ntmps34
  go_wp2_with (go_at_call 81; refine HN.out.mono ?_; rintro e w1 ⟨A, c, rfl, h1, h2⟩)
  go_ret
  exact ⟨A, c, rfl, h1, h2⟩
end
end Go.Proofs.YtgnilldcfpgpaaaGreatDoor
namespace Go.Proofs.YtgnilldcfpgpaaaGreatDoor
open Go.RowKit Go.Instr
def OneC (A B : World → Prop) (ic : Nat) (L : Nat → Bool) (_vs : Nat → Value) (w : World) : Prop := (L ic = false → A w) ∧ (L ic = true → B w)
section
variable {A B X : World → Prop} {ic k : Nat} {L : Nat → Bool} {vs : Nat → Value} {w w' : World}
theorem OneC.start (h : A w.drew) (vs : Nat → Value) : OneC A B ic (fun _ => false) vs w.drew := ⟨fun _ => h, fun e => by cases e⟩
theorem OneC.pure (h : OneC A B ic L vs w) (hk : ic ≠ k) : OneC A B ic (updN L k true) vs w := by
  unfold OneC at *
  rw [updN_ne _ _ hk]
  exact h
theorem OneC.any (h : OneC A B ic L vs w) (hA : ∀ w, A w → X w) (hB : ∀ w, B w → X w) : X w := by
  cases e : L ic with
  | false => exact hA w (h.1 e)
  | true => exact hB w (h.2 e)
theorem OneC.called (hB : B w') : OneC A B ic (updN L ic true) vs w' := by
  unfold OneC
  rw [updN_self]
  exact ⟨(fun e => by cases e), fun _ => hB⟩
variable {P : Program} {ops : Array Oper} {I : (Nat → Bool) → (Nat → Value) → World → Prop} {Q : Exit → Act → World → Prop} {pl : List (Option Value)} {o : Oper} {l : List Oper} {a : Act}
theorem inv_callv (v : Value) (hw : Region.wanted o (yielded ops a.tmps) = true) (hy : ∀ L w, I L vs w → L k = false → (∀ j, waits o j = true → L j = true) → GivesR P (fun _ _ => True) w (fun u w' => u = v ∧ I (updN L k true) vs w') ((execOp a.eval o).run P w))
    (hk : inv2Walk P ops I Q vs pl l (k + 1) (a.put o.dst v)) : inv2Walk P ops I Q vs (some v :: pl) (o :: l) k a :=
  ⟨fun L w h hL hw2 => .inl ⟨hw, hy L w h hL hw2⟩, hk⟩
end
end Go.Proofs.YtgnilldcfpgpaaaGreatDoor
namespace Go.Proofs.YtgnilldcfpgpaaaGreatDoor
open Go.RowKit Go.Maps
def uCh (s : List UInt8) : Ch := ⟨1, s, [112], [], [], [], 0, 0, 0, []⟩
theorem uCh_ok {s : List UInt8} (h : nameL s = true) : isC (uCh s) = true := by
  have e1 : passOk [112] = true := by decide
  have e2 : uidsOk [] = true := by decide
  have e3 : inR 0 0 2 = true := by decide
  have e4 : inR 0 0 31 = true := by decide
  have e5 : inR 0 0 1073741824 = true := by decide
  unfold isC uCh
  simp [h, e1, e2, e3, e4, e5]
def wantE (S : Stt) (s : List UInt8) : Int := if (S.user s).isSome then 8 else if 4 ≤ S.us.length then 6 else 0
def Un (S : Stt) : Prop := S.next = (S.us.length : Int) + 1
theorem doE_u {S : Stt} (s : List UInt8) (h : Un S) (hf : S.us.length ≤ 4) : doE S (uCh s) = wantE S s := by
  unfold Un at h
  show refE (S.user s).isSome S.us.length S.next = _
  unfold refE wantE
  split
  · rfl
  · split
    · rfl
    · rw [if_neg (by omega)]
theorem stepN_u (S : Stt) (s : List UInt8) : stepN S (uCh s) = 0 := by
  unfold stepN
  split
  · rfl
  · rfl
def uNew (S : Stt) (s : List UInt8) : Us := Us.having ⟨s, [112], []⟩ (newB inboxL S.next)
def uStt (S : Stt) (s : List UInt8) : Stt := ⟨S.next + 1, putL ukey (uNew S s) S.us⟩
theorem wantE_has {S : Stt} {s : List UInt8} (h : (S.user s).isSome = true) : wantE S s = 8 := by unfold wantE; rw [if_pos h]
theorem wantE_full {S : Stt} {s : List UInt8} (h : (S.user s).isSome = false) (hf : 4 ≤ S.us.length) : wantE S s = 6 := by unfold wantE; rw [if_neg (by simp [h]), if_pos hf]
theorem wantE_new {S : Stt} {s : List UInt8} (h : (S.user s).isSome = false) (hf : ¬ 4 ≤ S.us.length) : wantE S s = 0 := by unfold wantE; rw [if_neg (by simp [h]), if_neg hf]
theorem stepS_no {S : Stt} {s : List UInt8} (h : doE S (uCh s) ≠ 0) : stepS S (uCh s) = S := by unfold stepS; rw [if_neg h]
theorem stepS_new {S : Stt} {s : List UInt8} (h : doE S (uCh s) = 0) : stepS S (uCh s) = uStt S s := by unfold stepS; rw [if_pos h]; rfl
theorem length_put_none {α : Type} {key : α → ByteArray} {l : List α} {x : α} (h : findL key l (key x) = none) : (putL key x l).length = l.length + 1 := by
  unfold putL
  rw [length_insL]
  congr 1
  unfold delL
  rw [List.filter_eq_self.2]
  intro y hy
  unfold findL at h
  have := List.find?_eq_none.1 h y hy
  simpa using this
theorem len_u {S : Stt} {s : List UInt8} (h : S.user s = none) : (uStt S s).us.length = S.us.length + 1 := length_put_none (key := ukey) (x := uNew S s) h
theorem un_u {S : Stt} {s : List UInt8} (hu : Un S) (h : S.user s = none) : Un (uStt S s) := by
  have := len_u h
  unfold Un at *
  rw [this]
  show S.next + 1 = _
  rw [hu]
  omega
theorem get_u (S : Stt) (s : List UInt8) : getS (uStt S s) s inboxL = some (newB inboxL S.next) := by
  unfold getS
  have h1 : (uStt S s).user s = some (uNew S s) := findL_put (key := ukey) (uNew S s) S.us
  rw [h1]
  exact findL_put (key := bkey) (newB inboxL S.next) []
def isBl : Value → Bool
  | .bool _ => true
  | _ => false
def kvT (us : List Us) : List Kv := us.map fun u => (ukey u, .bool true)
theorem find_kvT (us : List Us) (s : ByteArray) : findL Prod.fst (kvT us) s = (findL ukey us s).map fun u => (ukey u, .bool true) := findL_map _ _ (fun _ => rfl) us s
theorem put_kvT (u : Us) (us : List Us) : putL Prod.fst (ukey u, Value.bool true) (kvT us) = kvT (putL ukey u us) := putL_map (fun u : Us => (ukey u, Value.bool true)) Prod.fst (fun _ => rfl) u us
theorem len_kvT (us : List Us) : (kvT us).length = us.length := List.length_map _
theorem look_t {w : World} {m : Nat} {us : List Us} {s : ByteArray} (h : KvAt isBl w m (kvT us)) (hs : s.size ≤ maxLen) :
    (Instr.lookup 76 (.map (some m)) (.string s) false).run Tryz.prog w = .ok (.bool (findL ukey us s).isSome) w := by
  have hk := key_of s hs
  have hz : ∀ w, (zeroValue 4).run Tryz.prog w = .ok (.bool false) w := fun w => by kernel_rfl
  have hzd : heldP isBl (.bool false) = some (.held (.bool false), []) := heldP_mk rfl
  obtain ⟨v, ps, hr, hv'⟩ := World.ownsMap.lookup (show w.ownsMap Tryz.prog 9 (heldP isBl) m (kvT us).length (DK (kvT us)) from h) keyed Tryz.underlying76 (hz w) hzd hk
  rw [hr]
  obtain ⟨h1, h2⟩ := heldP_inv hv'
  rw [atKey_DK, find_kvT] at h2
  have h3 := congrArg Prod.fst h2
  clear h2 hv' hr
  dsimp only at h3
  revert h3
  cases findL ukey us s with
  | none => intro h3; have := (DataW.held.inj h3).symm; rw [this]; rfl
  | some p => intro h3; have := (DataW.held.inj h3).symm; rw [this]; rfl
theorem len_t {w : World} {m : Nat} {us : List Us} (h : KvAt isBl w m (kvT us)) (ty : TypeId) : (Builtin.len_ #[76] ty #[.map (some m)]).run Tryz.prog w = .ok (.int .i64 (us.length : Int)) w := by
  have := len_kv Tryz.underlying76 (show KvIs isBl w (some m) (kvT us) from h) ty
  rw [len_kvT] at this
  exact this
end Go.Proofs.YtgnilldcfpgpaaaGreatDoor
namespace Go.Proofs.YtgnilldcfpgpaaaGreatDoor
open Go.RowKit Go.Maps
def Uss (w0 : World) (q g d lg : Nat) (cs : Array Value) (m : Nat) (S : Stt) (k : Nat) (w : World) : Prop :=
  Ost w0 q g d lg cs S k (fun x => x = m) (fun x => x = m) w ∧ Un S ∧ KvAt isBl w m (kvT S.us)
theorem Uss.keep {w0 w w' : World} {q g d lg : Nat} {cs : Array Value} {m : Nat} {S : Stt} {k : Nat} (h : Uss w0 q g d lg cs m S k w) (o : Only [] w w') : Uss w0 q g d lg cs m S k w' := ⟨h.1.keep o, h.2.1, KvAt.only h.2.2 o (by simp)⟩
def Xq (q g : Nat) (a : Addr) (ts : ByteArray) (w : World) : Prop := w.cell? ⟨q, 2, none⟩ = some (.pointer (some ⟨g, 0, none⟩)) ∧ w.cell? a = some (.string ts) ∧ q < w.heap.size
def Bq (w0 : World) (q g d lg : Nat) (cs : Array Value) (m : Nat) (us : List Us) (S : Stt) (k : Nat) (w : World) : Prop := ∃ k2, k2 ≤ k + 1 ∧ Ost w0 q g d lg cs S k2 (fun x => x = m) (fun x => x = m) w ∧ KvAt isBl w m (kvT us)
def tupG (N : Int) (x : Option Addr × Nat) : Value := .tuple #[.agg #[.string ⟨#[105, 110, 98, 111, 120]⟩, .int .i64 N, .int .i64 1, .slice x.1 0 x.2], .bool true]
def boxG (N : Int) (x : Option Addr × Nat) : Value := .agg #[.string ⟨#[105, 110, 98, 111, 120]⟩, .int .i64 N, .int .i64 1, .slice x.1 0 x.2]
def csG (N : Int) (x : Option Addr × Nat) : Array Value := #[.string ⟨#[105, 110, 98, 111, 120]⟩, .int .i64 N, .int .i64 1, .slice x.1 0 x.2]
def KnG (_ : Nat → Prop) (_ : World) (_ : Option Addr × Nat) : Prop := True
theorem knG : KnOk KnG := ⟨fun _ _ _ => trivial, fun _ _ => trivial⟩
theorem pair_parts {w : World} {q : Nat} {a b c e : Value} (h : Bk w q 39 #[a, b, c, e]) : w.cell? ⟨q, 2, none⟩ = some c ∧ q < w.heap.size := ⟨h.cell 2, h.lt⟩
set_option maxRecDepth 100000 in
set_option maxHeartbeats 8000000 in
theorem users_law (w : World) (ht : Tab w) (hT : TabN w) (hpos : 0 < w.heap.size) (hrem : 1 < w.heap.size) (A : Option Addr) (n c : Nat) (ls : List ByteArray) (hS : Sl w A n (ls.map Value.string)) (hb : ∀ s ∈ ls, s.size ≤ 140737488351232) (hn : n ≤ 140737488351232) :
    Calls Tryz.prog 10 #[.slice A n c] w fun e w' => e = .returned (.bool true) ∧ Only [] w w' := by
  have HKN := Lib.hid (fun (W : World) (o : Only [] w W) => sknown_any W (ht.keep o) (hT.keep o) (Nat.lt_of_lt_of_le hpos o.size) (Nat.lt_of_lt_of_le hrem o.size))
  have HBE := Lib.hid (sbegin_any ht hrem)
  have HT := Lib.hid (And.intro ht (And.intro hT hpos))
  have HS := Lib.hid hS
  have HB := Lib.hid hb
  have HLN : Hid (ls.length = n) := by have := hS.len; rw [List.length_map] at this; exact this
  have hmm := @run_makeMap Tryz.prog
  clear ht hT hpos hrem hS hb
  go_enter Tryz.func10, Tryz.ntmps10
  go_wp2_with (first
    | (go_at_call 14; refine HBE.out.mono ?_; clear HBE; intro e w1 hbg; have HBG := Lib.hid hbg; obtain ⟨q, d0, x0, g0, t0, lg0, F0, G0, rg0, rfl, _⟩ := hbg))
  · go_ret
    exact ⟨rfl, Only.refl [] _⟩
  · obtain ⟨d, x, g, t, lg, HO0⟩ := ost_begin HBG.out
    have HO0 := Lib.hid HO0
    clear HBG
    have HU0 : Hid (Uss w q g d lg #[.pointer (some ⟨d, 0, none⟩), .pointer (some ⟨x, 0, none⟩), .pointer (some ⟨g, 0, none⟩), .pointer (some ⟨t, 0, none⟩)] w1.heap.size ⟨1, []⟩ 0 (w1.alloc (.map #[] 0))) := by
      have hz := HO0.out.only0.size
      refine ⟨HO0.out.more ((Only.refl [] w1).alloc _) (fun x hx => .inr ⟨by omega, by simp; omega⟩) (fun x hx => ⟨hx, .inr (by omega)⟩), rfl, ?_⟩
      exact World.ownsMap_made w1 Tryz.prog 9 (heldP isBl)
    have HMW : Hid (w.heap.size ≤ w1.heap.size) := HO0.out.only0.size
    generalize w1.heap.size = m at HU0 HMW ⊢
    generalize w1.alloc (.map #[] 0) = w2 at HU0 ⊢
    clear HO0 hmm
    generalize hcs : (#[.pointer (some ⟨d, 0, none⟩), .pointer (some ⟨x, 0, none⟩), .pointer (some ⟨g, 0, none⟩), .pointer (some ⟨t, 0, none⟩)] : Array Value) = cs at HU0
    go_loopw [5] (fun i wr => ∃ (k k' : Nat) (S : Stt), k ≤ n ∧ k' ≤ k ∧ i = .int .i64 (k : Int) ∧ Hid (Uss w q g d lg cs m S k' wr)) (fun i _ => n - (intOf i).toNat)
    case atStart => exact ⟨0, 0, _, Nat.zero_le _, Nat.le_refl _, rfl, HU0⟩
    case round =>
      obtain ⟨k, k', S, hk, hk', rfl, HU⟩ := hrel
      by_cases hlt : k < n
      · have h1 : (k : Int) < (n : Int) := by omega
        have hkl : k < ls.length := by rw [HLN.out]; exact hlt
        have hQ : Only [] w wr := HU.out.1.only0
        obtain ⟨ad, u, rfl, hu, c0⟩ := (HS.out.keep hQ).at_ hlt
        rw [List.getElem?_map, List.getElem?_eq_getElem hkl] at hu
        obtain rfl : Value.string ls[k] = u := by simpa using hu
        have hub : ls[k].size ≤ 140737488351232 := HB.out _ (List.getElem_mem hkl)
        have HCW : Hid (w.cell? (ad.add k) = some (.string ls[k])) := by
          obtain ⟨ad2, u2, e2, hu2, c2⟩ := HS.out.at_ hlt
          injection e2 with e2
          subst e2
          rw [List.getElem?_map, List.getElem?_eq_getElem hkl] at hu2
          obtain rfl : Value.string ls[k] = u2 := by simpa using hu2
          exact c2
        obtain ⟨s, hs⟩ : ∃ s, St s = ls[k] := ⟨_, St_data _⟩
        rw [← hs] at c0 hub HCW
        have hsl : s.length ≤ 140737488351232 := by rw [St_size] at hub; exact hub
        have HNM := Lib.hid (fun W => refName_any s W (by omega))
        obtain ⟨ts, hts⟩ : ∃ t, St s = t := ⟨_, rfl⟩
        have HTS := Lib.hid hts
        rw [hts] at c0 hub HCW HNM
        have hmx : ts.size ≤ maxLen := by unfold maxLen; omega
        clear hs hts hu hkl
        cases hnm : nameL s with
        | false =>
          rw [hnm] at HNM
          go_wp2_with (first
            | (go_at_call 38; refine (HNM.out _).mono ?_; rintro e w3 ⟨rfl, rfl⟩))
          go_ret
          exact ⟨rfl, hQ⟩
        | true =>
          rw [hnm] at HNM
          have hgd := HU.out.1.good
          have hun := HU.out.2.1
          have HOK := Lib.hid (uCh_ok hnm)
          have hdE := doE_u s hun hgd.few
          obtain ⟨Er, hEr⟩ : ∃ x, wantE S s = x := ⟨_, rfl⟩
          have HER := Lib.hid hEr
          rw [hEr] at hdE
          have HDE := Lib.hid hdE
          have HDO : Hid (∀ V, Only [] wr V → Calls Tryz.prog 15 #[.pointer (some ⟨g, 0, none⟩), .agg #[.int .i64 1, .string ts, .string ⟨#[112]⟩, .string ⟨#[]⟩, .string ⟨#[]⟩, .slice none 0 0, .int .i64 0, .int .i64 0, .int .i64 0, .slice none 0 0]] V fun e w' => e = .returned (.tuple #[.int .i64 0, .int .i64 Er]) ∧ Bq w q g d lg cs m S.us (stepS S (uCh s)) k' w') := by
            intro V o
            have hV := HU.out.keep o
            have oV := hV.1.only0
            have := ost_do hV.1 (by omega) (uCh s) (Au := none) (Ab := none) (cu := 0) (cb := 0) ⟨Sl.none_, Sl.none_, Nat.zero_le _, Nat.zero_le _⟩ HOK.out (HT.out.2.1.keep oV) (Nat.lt_of_lt_of_le HT.out.2.2 oV.size) (HT.out.1.keep oV) HDE.out (stepN_u S s) rfl
            unfold chv at this
            rw [show (uCh s).user = s from rfl, HTS.out] at this
            refine Calls.mono this ?_
            rintro e w' ⟨rfl, k2, rs, h1, h2, h3, h4⟩
            exact ⟨rfl, k2, h1, h2, KvAt.only hV.2.2 h3 (h4 m rfl)⟩
          have HXA : Hid (∀ V, Only [] wr V → Xq q g (ad.add k) ts V) := fun V o => by
            have hp : Bk V q 39 cs := (HU.out.1.keep o).pair
            rw [← hcs] at hp
            exact ⟨(pair_parts hp).1, (hQ.then o).cellSome HCW.out (by simp), (pair_parts hp).2⟩
          have HXB : Hid (∀ V, Bq w q g d lg cs m S.us (stepS S (uCh s)) k' V → Xq q g (ad.add k) ts V) := fun V hb => by
            obtain ⟨k2, _, hb, _⟩ := hb
            have hp : Bk V q 39 cs := hb.pair
            rw [← hcs] at hp
            exact ⟨(pair_parts hp).1, hb.only0.cellSome HCW.out (by simp), (pair_parts hp).2⟩
          have HGF : Hid (S.us.length ≤ 4) := hgd.few
          have HNX : Hid (S.next = (S.us.length : Int) + 1) := hun
          clear hEr hdE hgd hun hnm
          go_upto_region 12 with (go_at_call 38; refine (HNM.out _).mono ?_; rintro e w3 ⟨rfl, rfl⟩)
          apply region_inv (OneC (fun V => Only [] wr V) (Bq w q g d lg cs m S.us (stepS S (uCh s)) k') 9) (by kernel_rfl) (by kernel_rfl) (fun vs => OneC.start ((Only.refl [] wr).drew) vs)
          intro vs
          apply inv_val
          case hw => rfl
          case hI => intro L wS hI; exact hI.pure (by decide)
          case hy => intro L wS hI; skip; first | (go_simp; done) | (go_simp; with_reducible rfl)
          case' hk => skip
          try simp only [Act.put, List.setIfInBounds_toArray, List.set_cons_zero, List.set_cons_succ]
          apply inv_val
          case hw => rfl
          case hI => intro L wS hI; exact hI.pure (by decide)
          case hy => intro L wS hI; obtain ⟨q2, qn, qw⟩ := hI.any (HXA.out) (HXB.out); first | (go_simp; done) | (go_simp; with_reducible rfl)
          case' hk => skip
          try simp only [Act.put, List.setIfInBounds_toArray, List.set_cons_zero, List.set_cons_succ]
          apply inv_val
          case hw => rfl
          case hI => intro L wS hI; exact hI.pure (by decide)
          case hy => intro L wS hI; obtain ⟨q2, qn, qw⟩ := hI.any (HXA.out) (HXB.out); first | (go_simp; done) | (go_simp; with_reducible rfl)
          case' hk => skip
          try simp only [Act.put, List.setIfInBounds_toArray, List.set_cons_zero, List.set_cons_succ]
          apply inv_val
          case hw => rfl
          case hI => intro L wS hI; exact hI.pure (by decide)
          case hy => intro L wS hI; obtain ⟨q2, qn, qw⟩ := hI.any (HXA.out) (HXB.out); first | (go_simp; done) | (go_simp; with_reducible rfl)
          case' hk => skip
          try simp only [Act.put, List.setIfInBounds_toArray, List.set_cons_zero, List.set_cons_succ]
          apply inv_val
          case hw => rfl
          case hI => intro L wS hI; exact hI.pure (by decide)
          case hy => intro L wS hI; skip; first | (go_simp; done) | (go_simp; with_reducible rfl)
          case' hk => skip
          try simp only [Act.put, List.setIfInBounds_toArray, List.set_cons_zero, List.set_cons_succ]
          apply inv_val
          case hw => rfl
          case hI => intro L wS hI; exact hI.pure (by decide)
          case hy => intro L wS hI; skip; first | (go_simp; done) | (go_simp; with_reducible rfl)
          case' hk => skip
          try simp only [Act.put, List.setIfInBounds_toArray, List.set_cons_zero, List.set_cons_succ]
          apply inv_val
          case hw => rfl
          case hI => intro L wS hI; exact hI.pure (by decide)
          case hy => intro L wS hI; obtain ⟨q2, qn, qw⟩ := hI.any (HXA.out) (HXB.out); first | (go_simp; done) | (go_simp; with_reducible rfl)
          case' hk => skip
          try simp only [Act.put, List.setIfInBounds_toArray, List.set_cons_zero, List.set_cons_succ]
          apply inv_val
          case hw => rfl
          case hI => intro L wS hI; exact hI.pure (by decide)
          case hy => intro L wS hI; obtain ⟨q2, qn, qw⟩ := hI.any (HXA.out) (HXB.out); first | (go_simp; done) | (go_simp; with_reducible rfl)
          case' hk => skip
          try simp only [Act.put, List.setIfInBounds_toArray, List.set_cons_zero, List.set_cons_succ]
          apply inv_val
          case hw => rfl
          case hI => intro L wS hI; exact hI.pure (by decide)
          case hy => intro L wS hI; skip; first | (go_simp; done) | (go_simp; with_reducible rfl)
          case' hk => skip
          try simp only [Act.put, List.setIfInBounds_toArray, List.set_cons_zero, List.set_cons_succ]
          apply inv_callv (v := .tuple #[.int .i64 0, .int .i64 Er])
          case hw => rfl
          case hy =>
            intro L wS hI hL hw
            refine gives_call (f := 15) (args := #[.pointer (some ⟨g, 0, none⟩), .agg #[.int .i64 1, .string ts, .string ⟨#[112]⟩, .string ⟨#[]⟩, .string ⟨#[]⟩, .slice none 0 0, .int .i64 0, .int .i64 0, .int .i64 0, .slice none 0 0]]) ?_ ?_
            · first | (go_simp; done) | (go_simp; with_reducible rfl)
            · exact (HDO.out wS (hI.1 hL)).mono fun e w' he => ⟨_, he.1, ⟨rfl, OneC.called he.2⟩, trivial⟩
          case' hk => skip
          try simp only [Act.put, List.setIfInBounds_toArray, List.set_cons_zero, List.set_cons_succ]
          apply inv_val
          case hw => rfl
          case hI => intro L wS hI; exact hI.pure (by decide)
          case hy => intro L wS hI; skip; first | (go_simp; done) | (go_simp; with_reducible rfl)
          case' hk => skip
          try simp only [Act.put, List.setIfInBounds_toArray, List.set_cons_zero, List.set_cons_succ]
          apply inv_val
          case hw => rfl
          case hI => intro L wS hI; exact hI.pure (by decide)
          case hy => intro L wS hI; skip; first | (go_simp; done) | (go_simp; with_reducible rfl)
          case' hk => skip
          try simp only [Act.put, List.setIfInBounds_toArray, List.set_cons_zero, List.set_cons_succ]
          apply inv_val
          case hw => rfl
          case hI => intro L wS hI; exact hI.pure (by decide)
          case hy => intro L wS hI; skip; first | (go_simp; done) | (go_simp; with_reducible rfl)
          case' hk => skip
          try simp only [Act.put, List.setIfInBounds_toArray, List.set_cons_zero, List.set_cons_succ]
          apply inv_val
          case hw => rfl
          case hI => intro L wS hI; exact hI.pure (by decide)
          case hy => intro L wS hI; skip; first | (go_simp; done) | (go_simp; with_reducible rfl)
          case' hk => skip
          try simp only [Act.put, List.setIfInBounds_toArray, List.set_cons_zero, List.set_cons_succ]
          apply inv_val
          case hw => rfl
          case hI => intro L wS hI; exact hI.pure (by decide)
          case hy => intro L wS hI; skip; first | (go_simp; done) | (go_simp; with_reducible rfl)
          case' hk => skip
          try simp only [Act.put, List.setIfInBounds_toArray, List.set_cons_zero, List.set_cons_succ]
          refine inv_end ?_
          intro L9 w3 hall hI
          have hB3 := hI.2 (hall 9 (by decide))
          obtain ⟨q2, c0', ql⟩ := HXB.out w3 hB3
          obtain ⟨k2, hk2, hO3, hK3⟩ := hB3
          have HO3 := Lib.hid hO3
          have HK3 := Lib.hid hK3
          have hQ3 := hO3.only0
          have hlk := look_t hK3 hmx
          clear hall hI hO3 hK3 c0
          have hfi : (findL ukey S.us ts).isSome = (S.user s).isSome := by rw [← HTS.out]; rfl
          rw [hfi] at hlk
          cases hp : (S.user s).isSome with
          | true =>
            rw [hp] at hlk
            obtain rfl : 8 = Er := by rw [← HER.out, wantE_has hp]
            have hst : stepS S (uCh s) = S := stepS_no (by rw [HDE.out]; decide)
            rw [hst] at HO3
            have HFN : Hid (Uss w q g d lg cs m S k2 w3) := ⟨HO3.out, HNX.out, HK3.out⟩
            go_wp2
            go_roundw
            case rel => exact ⟨k + 1, k2, S, by omega, by omega, by go_num, HFN⟩
            case measure => simp [intOf]; omega
          | false =>
            rw [hp] at hlk
            by_cases hfull : 4 ≤ S.us.length
            · obtain rfl : 6 = Er := by rw [← HER.out, wantE_full hp hfull]
              have hst : stepS S (uCh s) = S := stepS_no (by rw [HDE.out]; decide)
              rw [hst] at HO3
              have HFN : Hid (Uss w q g d lg cs m S k2 w3) := ⟨HO3.out, HNX.out, HK3.out⟩
              have hlen := len_t HK3.out
              have hf4 : (4 : Int) ≤ (S.us.length : Int) := by omega
              go_wp2
              go_roundw
              case rel => exact ⟨k + 1, k2, S, by omega, by omega, by go_num, HFN⟩
              case measure => simp [intOf]; omega
            · obtain rfl : 0 = Er := by rw [← HER.out, wantE_new hp hfull]
              have hst : stepS S (uCh s) = uStt S s := stepS_new HDE.out
              rw [hst] at HO3
              have hlen := len_t HK3.out
              have hf4 : ¬ (4 : Int) ≤ (S.us.length : Int) := by omega
              have hnone : S.user s = none := by simpa using hp
              have hkey := key_of ts hmx
              have HP : Hid ((DK (kvT S.us)).put (keyLit ts) (.held (.bool true)) = DK (kvT (uStt S s).us)) := by
                have h1 := put_DK (ukey (uNew S s), Value.bool true) (kvT S.us)
                rw [put_kvT] at h1
                rw [← HTS.out]
                exact h1
              have hc0 : heldP isBl (.bool true) = some (.held (.bool true), []) := heldP_mk rfl
              have HLN2 : Hid ((kvT S.us).length + 1 ≤ maxLen) := by show _ ≤ _; rw [len_kvT]; unfold maxLen; omega
              have HUN := Lib.hid (un_u HNX.out hnone)
              have HLL : Hid (((uStt S s).us.length : Int) = S.next) := by show _ = _; rw [len_u hnone, HNX.out]; omega
              have HGTS := Lib.hid (get_u S s)
              obtain ⟨Nx, hNx⟩ : ∃ x, S.next = x := ⟨_, rfl⟩
              have HNX2 := Lib.hid hNx
              rw [hNx] at HLL HGTS
              clear hNx hnone hst
              go_upto_region 22 with (first
                | (at_mapUpdate; refine wpList_mapUpdate_own _ rfl _ _ _ 76 rfl 9 4 keyed Tryz.underlying76 (heldP isBl) m (kvT S.us).length (DK (kvT S.us)) rfl HK3.out HLN2.out _ _ (keyLit ts) rfl rfl hkey (.held (.bool true)) [] hc0 ?_; intro w4 hout4 hg4; rw [HP.out] at hout4; go_frame))
              have hK4 : KvAt isBl w4 m (kvT (uStt S s).us) := KvAt.of hout4
              have hO4 := HO3.out.turn (Only.of_grown hg4) (fun x hx => by simpa using hx)
              have HO4 := Lib.hid hO4
              have HK4 := Lib.hid hK4
              have HQ4 : Hid (Xq q g (ad.add k) ts w4) := by
                have hp : Bk w4 q 39 cs := hO4.pair
                rw [← hcs] at hp
                exact ⟨(pair_parts hp).1, hO4.only0.cellSome HCW.out (by simp), (pair_parts hp).2⟩
              have HGT : Hid (∀ V, Only [] w4 V → Calls Tryz.prog 35 #[.pointer (some ⟨g, 0, none⟩), .string ts, .string ⟨#[105, 110, 98, 111, 120]⟩] V fun e w' => ∃ x : Option Addr × Nat, e = .returned (tupG Nx x) ∧ Only [] V w') := by
                intro V o
                have := ost_get (HO4.out.keep o) s inboxL (by omega) (by decide)
                rw [HTS.out] at this
                refine Calls.mono this ?_
                rintro e w' ⟨K, ⟨o2, hg⟩, _⟩
                rcases hg with ⟨h, _⟩ | ⟨b, A2, c2, h, _, rfl, _⟩
                · rw [HGTS.out] at h; cases h
                · rw [HGTS.out] at h
                  obtain rfl := Option.some.inj h
                  exact ⟨(A2, c2), rfl, o2⟩
              clear hout4 hg4 hK4 hO4 hlk hlen q2 c0' ql
              apply region_inv (CallG w4 (fun _ => True) KnG (tupG Nx) (boxG Nx) (csG Nx) 71 #[.string ⟨#[]⟩, .int .i64 0, .int .i64 0, .slice none 0 0] 8 9 10 12 13) (by kernel_rfl) (by kernel_rfl) (fun vs => CallG.start vs)
              intro vs
              apply inv_val
              case hw => rfl
              case hI => intro L wS hI; exact hI.pure (by decide)
              case hy => intro L wS hI; skip; first | (go_simp; done) | (go_simp; with_reducible rfl)
              case' hk => skip
              try simp only [Act.put, List.setIfInBounds_toArray, List.set_cons_zero, List.set_cons_succ]
              apply inv_val
              case hw => rfl
              case hI => intro L wS hI; exact hI.pure (by decide)
              case hy => intro L wS hI; have q2 := hI.1.cellSome HQ4.out.1 (by simp); have ql := Nat.lt_of_lt_of_le HQ4.out.2.2 hI.1.size; first | (go_simp; done) | (go_simp; with_reducible rfl)
              case' hk => skip
              try simp only [Act.put, List.setIfInBounds_toArray, List.set_cons_zero, List.set_cons_succ]
              apply inv_val
              case hw => rfl
              case hI => intro L wS hI; exact hI.pure (by decide)
              case hy => intro L wS hI; have q2 := hI.1.cellSome HQ4.out.1 (by simp); first | (go_simp; done) | (go_simp; with_reducible rfl)
              case' hk => skip
              try simp only [Act.put, List.setIfInBounds_toArray, List.set_cons_zero, List.set_cons_succ]
              apply inv_val
              case hw => rfl
              case hI => intro L wS hI; exact hI.pure (by decide)
              case hy => intro L wS hI; have q2 := hI.1.cellSome HQ4.out.1 (by simp); have ql := Nat.lt_of_lt_of_le HQ4.out.2.2 hI.1.size; first | (go_simp; done) | (go_simp; with_reducible rfl)
              case' hk => skip
              try simp only [Act.put, List.setIfInBounds_toArray, List.set_cons_zero, List.set_cons_succ]
              apply inv_val
              case hw => rfl
              case hI => intro L wS hI; exact hI.pure (by decide)
              case hy => intro L wS hI; skip; first | (go_simp; done) | (go_simp; with_reducible rfl)
              case' hk => skip
              try simp only [Act.put, List.setIfInBounds_toArray, List.set_cons_zero, List.set_cons_succ]
              apply inv_val
              case hw => rfl
              case hI => intro L wS hI; exact hI.pure (by decide)
              case hy => intro L wS hI; skip; first | (go_simp; done) | (go_simp; with_reducible rfl)
              case' hk => skip
              try simp only [Act.put, List.setIfInBounds_toArray, List.set_cons_zero, List.set_cons_succ]
              apply inv_val
              case hw => rfl
              case hI => intro L wS hI; exact hI.pure (by decide)
              case hy => intro L wS hI; have qn := hI.1.cellSome HQ4.out.2.1 (by simp); first | (go_simp; done) | (go_simp; with_reducible rfl)
              case' hk => skip
              try simp only [Act.put, List.setIfInBounds_toArray, List.set_cons_zero, List.set_cons_succ]
              apply inv_val
              case hw => rfl
              case hI => intro L wS hI; exact hI.pure (by decide)
              case hy => intro L wS hI; have qn := hI.1.cellSome HQ4.out.2.1 (by simp); first | (go_simp; done) | (go_simp; with_reducible rfl)
              case' hk => skip
              try simp only [Act.put, List.setIfInBounds_toArray, List.set_cons_zero, List.set_cons_succ]
              apply inv_op
              case hw => rfl
              case hy =>
                intro L wS hI hL hw
                refine gives_call (f := 35) (args := #[.pointer (some ⟨g, 0, none⟩), .string ts, .string ⟨#[105, 110, 98, 111, 120]⟩]) ?_ ?_
                · first | (go_simp; done) | (go_simp; with_reducible rfl)
                · exact (HGT.out wS hI.1).mono fun e w' he => by
                    obtain ⟨xw, e1, e3⟩ := he
                    exact ⟨_, e1, hI.call knG xw hL (by decide) trivial e3, trivial⟩
              case' hk => skip
              try simp only [Act.put, List.setIfInBounds_toArray, List.set_cons_zero, List.set_cons_succ]
              apply inv_op
              case hw => rfl
              case hy =>
                intro L wS hI hL hw
                obtain ⟨xw, e, h⟩ := hI.move (hw 8 (by kernel_rfl)) (by decide)
                refine gives_value (u := tupG Nx xw) (w' := wS) ?_ h trivial
                rw [e]
                unfold tupG
                first | (go_simp; done) | (go_simp; with_reducible rfl)
              case' hk => skip
              try simp only [Act.put, List.setIfInBounds_toArray, List.set_cons_zero, List.set_cons_succ]
              apply inv_op
              case hw => rfl
              case hy =>
                intro L wS hI hL hw
                obtain ⟨xw, e, h⟩ := hI.part (hw 9 (by kernel_rfl)) (by decide)
                refine gives_value (u := boxG Nx xw) (w' := wS) ?_ h trivial
                rw [e]
                unfold tupG boxG
                first | (go_simp; done) | (go_simp; with_reducible rfl)
              case' hk => skip
              try simp only [Act.put, List.setIfInBounds_toArray, List.set_cons_zero, List.set_cons_succ]
              apply inv_valw (v := .bool true)
              case hw => rfl
              case hI => intro L wS hI; exact hI.pure (by decide)
              case hy =>
                intro L wS hI hw
                obtain ⟨xw, e⟩ := hI.see (hw 9 (by kernel_rfl))
                rw [e]
                unfold tupG
                first | (go_simp; done) | (go_simp; with_reducible rfl)
              case' hk => skip
              try simp only [Act.put, List.setIfInBounds_toArray, List.set_cons_zero, List.set_cons_succ]
              apply inv_op
              case hw => rfl
              case hy =>
                intro L wS hI hL hw
                refine gives_value (u := ptr2 wS.heap.size) (w' := wS.alloc (.cells #[.string ⟨#[]⟩, .int .i64 0, .int .i64 0, .slice none 0 0] 71)) ?_ (hI.alloc knG hL (by decide)) trivial
                show _ = Result.ok (Next.value (.pointer (some ⟨wS.heap.size, 0, none⟩))) (wS.alloc (.cells #[.string ⟨#[]⟩, .int .i64 0, .int .i64 0, .slice none 0 0] 71))
                first | (go_simp; done) | (go_simp; with_reducible rfl)
              case' hk => skip
              try simp only [Act.put, List.setIfInBounds_toArray, List.set_cons_zero, List.set_cons_succ]
              apply inv_op
              case hw => rfl
              case hy =>
                intro L wS hI hL hw
                obtain ⟨gn, xw, e4, e3, hb, hst⟩ := hI.store knG hL (hw 12 (by kernel_rfl)) (hw 10 (by kernel_rfl)) (by decide)
                obtain ⟨p0, p1, p2, p3⟩ := bk_four hb
                have fz0 := hb.free 0
                have fz1 := hb.free 1
                have fz2 := hb.free 2
                have fz3 := hb.free 3
                have hg := hb.lt
                rw [e4, e3]
                refine gives_skip ?_ (hst _ _ (only_store (Only.refl [gn] wS) (.inl List.mem_cons_self) (.string ⟨#[105, 110, 98, 111, 120]⟩) (.int .i64 Nx) (.int .i64 1) (.slice xw.1 0 xw.2)) (bk_store hb _ _ _ _)) trivial
                unfold ptr2 boxG
                go_simp
              case' hk => skip
              try simp only [Act.put]
              apply inv_val
              case hw => rfl
              case hI => intro L wS hI; exact hI.pure (by decide)
              case hy => intro L wS hI; skip; first | (go_simp; done) | (go_simp; with_reducible rfl)
              case' hk => skip
              try simp only [Act.put, List.setIfInBounds_toArray, List.set_cons_zero, List.set_cons_succ]
              refine inv_end ?_
              intro L9 w5 hall hI
              obtain ⟨xw, p8, e1, e2, e3, e4, hp8, N5, _, O5⟩ := hI.end_ knG ⟨hall 8 (by decide), hall 9 (by decide), hall 10 (by decide), hall 12 (by decide), hall 13 (by decide)⟩
              rw [e1, e2, e3, e4]
              clear e1 e2 e3 e4 hall hI
              unfold ptr2 tupG boxG
              unfold csG at N5
              obtain ⟨b0, b1, b2, b3⟩ := bk_four N5
              have bl := N5.lt
              have hlen := len_t (KvAt.only HK4.out O5 (by simp))
              rw [HLL.out] at hlen
              have hnn : (Nx != Nx) = false := by simp
              have HFN : Hid (Uss w q g d lg cs m (uStt S s) k2 w5) := Uss.keep ⟨HO4.out, HUN.out, HK4.out⟩ O5
              clear HGT HDO HXA HXB
              go_wp2
              go_roundw
              case rel => exact ⟨k + 1, k2, _, by omega, by omega, by go_num, HFN⟩
              case measure => simp [intOf]; omega
      · have h1 : ¬ ((k : Int) < (n : Int)) := by omega
        obtain rfl : k = n := by omega
        have HUS := Lib.hid (fun W (o : Only [] wr W) => ost_users (HU.out.1.keep o))
        have hlen := len_t HU.out.2.2
        have hQ : Only [] w wr := HU.out.1.only0
        have hpq : Bk wr q 39 cs := HU.out.1.pair
        rw [← hcs] at hpq
        obtain ⟨q2, ql⟩ := pair_parts hpq
        go_wp2_with (first
          | (go_at_call 34; refine (HUS.out _ (Only.refl [] _)).mono ?_; rintro e w3 ⟨A3, c3, rfl, h3, o3⟩; clear hlen; have hlen := len_t (KvAt.only HU.out.2.2 o3 (by simp)))
          | (go_at_call 23; refine (HKN.out w3 (hQ.then o3)).mono ?_; rintro e w4 ⟨rfl, O4⟩))
        go_ret
        exact ⟨rfl, (hQ.then o3).then O4⟩
end Go.Proofs.YtgnilldcfpgpaaaGreatDoor
