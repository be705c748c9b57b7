/-
  Texts of the seat, laid one behind the other: SEnrol SWithin SUser3 SUser4.
-/
import Derived.Test.YtgnilldcfpgpaaaGreatDoorY14
import Derived.Test.YtgnilldcfpgpaaaGreatDoorY12
namespace Go.Proofs.YtgnilldcfpgpaaaGreatDoor
open Go.RowKit Go.Maps
def SR (K : Nat → Prop) (w : World) (S' : Stt) (E N : Int) (e : Ending) (w' : World) : Prop :=
  (E ≠ 0 ∧ e = .returned (.tuple #[.agg #[.int .i64 0, .map none], .int .i64 0, .int .i64 E]) ∧ Only [] w w') ∨ (E = 0 ∧ ∃ mu', e = .returned (.tuple #[stv S'.next mu', .int .i64 N, .int .i64 0]) ∧ StIs K w' mu' S' ∧ Only [] w w')
structure SIn (K : Nat → Prop) (w : World) (mu : Option Nat) (S : Stt) : Prop where
  st : StIs K w mu S
  kk : ∀ x, w.heap.size ≤ x → K x
  good : GoodS S
theorem St_inbox : St inboxL = ⟨#[105, 110, 98, 111, 120]⟩ := rfl
theorem len_us {us : List Lu} {S : Stt} (h : us.map Lu.us = S.us) : us.length = S.us.length := by rw [← h, List.length_map]
theorem find_us {us : List Lu} {S : Stt} (h : us.map Lu.us = S.us) (s : List UInt8) : S.user s = (findL Lu.key us (St s)).map Lu.us := by
  unfold Stt.user
  rw [← h]
  exact find_u us (St s)
set_option maxRecDepth 100000 in
set_option maxHeartbeats 2000000 in
theorem enrol_any {K : Nat → Prop} {w : World} {mu : Option Nat} (S : Stt) (hi : SIn K w mu S) (ch : Ch) {Au Ab : Option Addr} {cu cb : Nat} (hsz : ch.user.length ≤ 12 ∧ ch.box.length ≤ 12) :
    Calls Tryz.prog 84 #[stv S.next mu, chv ch Au cu Ab cb] w (SR K w (S.withNew ⟨ch.user, ch.pass, []⟩ inboxL) (refE (S.user ch.user).isSome S.us.length S.next) (0)) := by
  obtain ⟨⟨us, hus, hmap⟩, hK, hg⟩ := hi
  have hf := three_blocks w #[.int .i64 S.next, .map mu] #[.int .i64 ch.kind, .string (St ch.user), .string (St ch.pass), .string (St ch.box), .string (St ch.to), .slice Au ch.uids.length cu, .int .i64 ch.mode, .int .i64 ch.flags, .int .i64 ch.date, .slice Ab ch.body.length cb] #[.int .i64 0, .map none] 91 29 91
  obtain ⟨Er, hEr⟩ : ∃ x : Int, (refE (S.user ch.user).isSome S.us.length S.next) = x := ⟨_, rfl⟩
  obtain ⟨Sr, hSr⟩ : ∃ x : Stt, (S.withNew ⟨ch.user, ch.pass, []⟩ inboxL) = x := ⟨_, rfl⟩
  rw [hEr, hSr]
  have HER := Lib.hid hEr
  have HSR := Lib.hid hSr
  have HU := Lib.hid hus
  have HMP := Lib.hid hmap
  have HK := Lib.hid hK
  have HG := Lib.hid hg
  have HSZ := Lib.hid hsz
  unfold stv chv
  clear hEr hSr hus hmap hK hg hsz
  go_enter Tryz.func84, Tryz.ntmps84
  go_upto_region 1 with fail
  revert hf
  generalize (((w.alloc (.cells #[.int .i64 S.next, .map mu] 91)).alloc (.cells #[.int .i64 ch.kind, .string (St ch.user), .string (St ch.pass), .string (St ch.box), .string (St ch.to), .slice Au ch.uids.length cu, .int .i64 ch.mode, .int .i64 ch.flags, .int .i64 ch.date, .slice Ab ch.body.length cb] 29)).alloc (.cells #[.int .i64 0, .map none] 91)) = W
  rintro ⟨hS, hC, hR, hO⟩
  obtain ⟨s0, s1⟩ := bk_two hS
  obtain ⟨k0, k1, k2, k3, k4, k5, k6, k7, k8, k9⟩ := bk_ten hC
  obtain ⟨r0, r1⟩ := bk_two hR
  have rf0 := hR.free 0
  have rf1 := hR.free 1
  have rl := hR.lt
  have sl := hS.lt
  have cl := hC.lt
  have HS := Lib.hid hS
  have HC := Lib.hid hC
  have HR := Lib.hid hR
  have HO := Lib.hid hO
  have HKX : Hid (∀ x, W.heap.size ≤ x → Kx K w 3 x) := fun x hx => ⟨HK.out x (by omega), .inr (by omega)⟩
  have HUW : Hid (UsIs (Kx K w 3) W mu us) := HU.out.kx 3 HO.out
  clear hS hC hR hO
  have hsz : (St ch.user).size ≤ maxLen := by rw [St_size]; have := HSZ.out.1; unfold maxLen; omega
  cases hf : findL Lu.key us (St ch.user) with
  | some x =>
    have hlk := HUW.out.look true hsz hf
    unfold usv at hlk
    have hln := lenU HUW.out.1
    have hl2 : (us.map kvU).length = S.us.length := by rw [List.length_map]; exact len_us HMP.out
    rw [hl2] at hln
    have oa : Only [] W (W.alloc (.cells #[.string (St x.pass), .map x.mb] 154)) := (Only.refl [] W).alloc _
    have hln2 := lenU (HUW.out.1.keep oa)
    rw [hl2] at hln2
    have HE2 : Hid (refE true S.us.length S.next = Er) := by
      show _ = _
      rw [← HER.out, find_us HMP.out, hf]
      rfl
    have HNE : Hid (Er ≠ 0) := by show _ ≠ _; rw [← HE2.out]; unfold refE; simp
    have hne : (refE true S.us.length S.next != 0) = true := by rw [HE2.out]; simpa using HNE.out
    clear hf
    go_wp2_with (first
      | (go_at_call 150; go_must (refine (srefusal_any S.next mu true S.us.length _).mono ?_); rintro e w2 ⟨rfl, O2⟩; have o2 := oa.then O2; have B0 := HS.out.only o2 (by simp); have B1 := HC.out.only o2 (by simp); have B3 := HR.out.only o2 (by simp); clear s0 s1 k0 k1 k2 k3 k4 k5 k6 k7 k8 k9 r0 r1 rf0 rf1 rl sl cl; obtain ⟨s0, s1⟩ := bk_two B0; obtain ⟨k0, k1, k2, k3, k4, k5, k6, k7, k8, k9⟩ := bk_ten B1; obtain ⟨r0, r1⟩ := bk_two B3; have rf0 := B3.free 0; have rf1 := B3.free 1; have rl := B3.lt; have sl := B0.lt; have cl := B1.lt))
    exact st_ret3 (s := 4) (u := 5) (v := 6) (by kernel_rfl) (w.heap.size + 1 + 1) _ _ _ _ rfl rfl rfl (bk_store2 B3 _ _) (.inl ⟨HNE.out, by rw [← HE2.out]; rfl, only_store2 (HO.out.then o2) (.inr (by omega)) _ _⟩)
  | none =>
    have hlk := HUW.out.look_no true hsz hf
    have hln := lenU HUW.out.1
    have hl2 : (us.map kvU).length = S.us.length := by rw [List.length_map]; exact len_us HMP.out
    rw [hl2] at hln
    have oa : Only [] W (W.alloc (.cells #[.string ⟨#[]⟩, .map none] 154)) := (Only.refl [] W).alloc _
    have hln2 := lenU (HUW.out.1.keep oa)
    rw [hl2] at hln2
    have HE2 : Hid (refE false S.us.length S.next = Er) := by
      show _ = _
      rw [← HER.out, find_us HMP.out, hf]
      rfl
    by_cases he : Er = 0
    · have he2 : refE false S.us.length S.next = 0 := HE2.out.trans he
      have HWN := Lib.hid (fun (V : World) (o : Only [] W V) => by
        have hh := withNew_any (K := Kx K w 3) S.next ch.user ch.pass inboxL (HUW.out.keep o) (BsIs.none_ (Kx K w 3) V) (fun x hx => HKX.out x (Nat.le_trans o.size hx)) (by rw [len_us HMP.out]; have := HG.out.few; omega) (by simp) (by have := HSZ.out.1; omega) (by decide) ⟨by have := HG.out.next; omega, HG.out.next.2⟩
        unfold NewR at hh
        unfold usv stv at hh
        rw [St_inbox] at hh
        exact hh)
      subst he
      clear hf
      go_wp2_with (first
        | (go_at_call 151; refine (HWN.out w2 o2).mono ?_; rintro e w3 ⟨m3, us3, rfl, U3, hm3, O3⟩; have B33 := B3.only O3 (by simp); clear r0 r1 rf0 rf1 rl; obtain ⟨r0, r1⟩ := bk_two B33; have rf0 := B33.free 0; have rf1 := B33.free 1; have rl := B33.lt)
        | (go_at_call 150; go_must (refine (srefusal_any S.next mu false S.us.length _).mono ?_); rintro e w2 ⟨rfl, O2⟩; have o2 := oa.then O2; have B0 := HS.out.only o2 (by simp); have B1 := HC.out.only o2 (by simp); have B3 := HR.out.only o2 (by simp); clear s0 s1 k0 k1 k2 k3 k4 k5 k6 k7 k8 k9 r0 r1 rf0 rf1 rl sl cl; obtain ⟨s0, s1⟩ := bk_two B0; obtain ⟨k0, k1, k2, k3, k4, k5, k6, k7, k8, k9⟩ := bk_ten B1; obtain ⟨r0, r1⟩ := bk_two B3; have rf0 := B3.free 0; have rf1 := B3.free 1; have rl := B3.lt; have sl := B0.lt; have cl := B1.lt))
      have OR := only_store2 (g := w.heap.size + 1 + 1) (Only.refl [w.heap.size + 1 + 1] w3) (.inl (by simp)) (.int .i64 (S.next + 1)) (.map (some m3))
      exact st_ret3 (s := 4) (u := 5) (v := 6) (by kernel_rfl) (w.heap.size + 1 + 1) _ _ _ _ rfl rfl rfl (bk_store2 B33 _ _) (.inr ⟨rfl, some m3, by rw [← HSR.out]; rfl, ⟨us3, (U3.only OR (fun x hx hm => by simp at hm; have := hx.2; omega)).mono (fun x _ hx => hx.1), by rw [hm3]; rw [← HSR.out, HMP.out]; rfl⟩, only_store2 ((HO.out.then o2).then O3) (.inr (by omega)) _ _⟩)
    · have HNE : Hid (Er ≠ 0) := he
      have hne : (refE false S.us.length S.next != 0) = true := by rw [HE2.out]; simpa using he
      clear hf he
      go_wp2_with (first
        | (go_at_call 150; go_must (refine (srefusal_any S.next mu false S.us.length _).mono ?_); rintro e w2 ⟨rfl, O2⟩; have o2 := oa.then O2; have B0 := HS.out.only o2 (by simp); have B1 := HC.out.only o2 (by simp); have B3 := HR.out.only o2 (by simp); clear s0 s1 k0 k1 k2 k3 k4 k5 k6 k7 k8 k9 r0 r1 rf0 rf1 rl sl cl; obtain ⟨s0, s1⟩ := bk_two B0; obtain ⟨k0, k1, k2, k3, k4, k5, k6, k7, k8, k9⟩ := bk_ten B1; obtain ⟨r0, r1⟩ := bk_two B3; have rf0 := B3.free 0; have rf1 := B3.free 1; have rl := B3.lt; have sl := B0.lt; have cl := B1.lt))
      exact st_ret3 (s := 4) (u := 5) (v := 6) (by kernel_rfl) (w.heap.size + 1 + 1) _ _ _ _ rfl rfl rfl (bk_store2 B3 _ _) (.inl ⟨HNE.out, by rw [← HE2.out]; rfl, only_store2 (HO.out.then o2) (.inr (by omega)) _ _⟩)
set_option maxRecDepth 100000 in
set_option maxHeartbeats 2000000 in
theorem create_any {K : Nat → Prop} {w : World} {mu : Option Nat} (S : Stt) (hi : SIn K w mu S) (ch : Ch) {Au Ab : Option Addr} {cu cb : Nat} (hsz : ch.user.length ≤ 12 ∧ ch.box.length ≤ 12) :
    Calls Tryz.prog 85 #[stv S.next mu, chv ch Au cu Ab cb] w (SR K w (match S.user ch.user with | none => S | some u => S.withNew u ch.box) (match S.user ch.user with | none => 7 | some u => refE (u.box ch.box).isSome u.bs.length S.next) (0)) := by
  obtain ⟨⟨us, hus, hmap⟩, hK, hg⟩ := hi
  have hf := three_blocks w #[.int .i64 S.next, .map mu] #[.int .i64 ch.kind, .string (St ch.user), .string (St ch.pass), .string (St ch.box), .string (St ch.to), .slice Au ch.uids.length cu, .int .i64 ch.mode, .int .i64 ch.flags, .int .i64 ch.date, .slice Ab ch.body.length cb] #[.int .i64 0, .map none] 91 29 91
  obtain ⟨Er, hEr⟩ : ∃ x : Int, (match S.user ch.user with | none => 7 | some u => refE (u.box ch.box).isSome u.bs.length S.next) = x := ⟨_, rfl⟩
  obtain ⟨Sr, hSr⟩ : ∃ x : Stt, (match S.user ch.user with | none => S | some u => S.withNew u ch.box) = x := ⟨_, rfl⟩
  rw [hEr, hSr]
  have HER := Lib.hid hEr
  have HSR := Lib.hid hSr
  have HU := Lib.hid hus
  have HMP := Lib.hid hmap
  have HK := Lib.hid hK
  have HG := Lib.hid hg
  have HSZ := Lib.hid hsz
  unfold stv chv
  clear hEr hSr hus hmap hK hg hsz
  go_enter Tryz.func85, Tryz.ntmps85
  go_upto_region 1 with fail
  revert hf
  generalize (((w.alloc (.cells #[.int .i64 S.next, .map mu] 91)).alloc (.cells #[.int .i64 ch.kind, .string (St ch.user), .string (St ch.pass), .string (St ch.box), .string (St ch.to), .slice Au ch.uids.length cu, .int .i64 ch.mode, .int .i64 ch.flags, .int .i64 ch.date, .slice Ab ch.body.length cb] 29)).alloc (.cells #[.int .i64 0, .map none] 91)) = W
  rintro ⟨hS, hC, hR, hO⟩
  obtain ⟨s0, s1⟩ := bk_two hS
  obtain ⟨k0, k1, k2, k3, k4, k5, k6, k7, k8, k9⟩ := bk_ten hC
  obtain ⟨r0, r1⟩ := bk_two hR
  have rf0 := hR.free 0
  have rf1 := hR.free 1
  have rl := hR.lt
  have sl := hS.lt
  have cl := hC.lt
  have HS := Lib.hid hS
  have HC := Lib.hid hC
  have HR := Lib.hid hR
  have HO := Lib.hid hO
  have HKX : Hid (∀ x, W.heap.size ≤ x → Kx K w 3 x) := fun x hx => ⟨HK.out x (by omega), .inr (by omega)⟩
  have HUW : Hid (UsIs (Kx K w 3) W mu us) := HU.out.kx 3 HO.out
  clear hS hC hR hO
  have hsz : (St ch.user).size ≤ maxLen := by rw [St_size]; have := HSZ.out.1; unfold maxLen; omega
  cases hf : findL Lu.key us (St ch.user) with
  | none =>
    have hlk := HUW.out.look_no true hsz hf
    have HE7 : Hid ((7 : Int) = Er) := by show _ = _; rw [← HER.out, find_us HMP.out, hf]; rfl
    clear hf
    go_wp2
    exact st_ret3 (s := 4) (u := 5) (v := 6) (by kernel_rfl) (w.heap.size + 1 + 1) _ _ _ _ rfl rfl rfl ((bk_store2 HR.out _ _).alloc _) (.inl ⟨by rw [← HE7.out]; decide, by rw [← HE7.out]; rfl, (only_store2 HO.out (.inr (by omega)) _ _).alloc _⟩)
  | some x =>
    have hlk := HUW.out.look true hsz hf
    unfold usv at hlk
    have hsb : (St ch.box).size ≤ maxLen := by rw [St_size]; have := HSZ.out.2; unfold maxLen; omega
    have HNM : Hid (ch.user = x.name) := (tx_inj.1 (HUW.out.find hf).2).symm
    have HGU : Hid (x.bs.length ≤ 4) := by
      have hm : x.us ∈ S.us := by rw [← HMP.out]; exact List.mem_map_of_mem (findL_some hf).1
      have := (HG.out.users x.us hm).few
      unfold Lu.us at this
      rw [List.length_map] at this
      exact this
    have HBX : Hid (BsIs (Kx K w 3) (W.alloc (.cells #[.string (St x.pass), .map x.mb] 154)) x.mb x.bs) := (HUW.out.find hf).1.keep ((Only.refl [] W).alloc _)
    have HU1 : Hid (Bk (W.alloc (.cells #[.string (St x.pass), .map x.mb] 154)) W.heap.size 154 #[.string (St x.pass), .map x.mb]) := Bk.new W 154 #[.string (St x.pass), .map x.mb]
    cases hf2 : findL Lb.key x.bs (St ch.box) with
    | some y =>
      have hlb := HBX.out.look true hsb hf2
      unfold bxv at hlb
      have HUB : Hid (Bk ((W.alloc (.cells #[.string (St x.pass), .map x.mb] 154)).alloc (.cells #[.string (St y.b.name), .int .i64 y.b.val, .int .i64 y.b.next, .slice y.A y.b.l.length y.c] 71)) W.heap.size 154 #[.string (St x.pass), .map x.mb]) := (Bk.new W 154 #[.string (St x.pass), .map x.mb]).alloc _
      have oa : Only [] W ((W.alloc (.cells #[.string (St x.pass), .map x.mb] 154)).alloc (.cells #[.string (St y.b.name), .int .i64 y.b.val, .int .i64 y.b.next, .slice y.A y.b.l.length y.c] 71)) := ((Only.refl [] W).alloc _).alloc _
      have hln := lenB (HBX.out.keep ((Only.refl [] (W.alloc (.cells #[.string (St x.pass), .map x.mb] 154))).alloc (.cells #[.string (St y.b.name), .int .i64 y.b.val, .int .i64 y.b.next, .slice y.A y.b.l.length y.c] 71))).1
      rw [List.length_map] at hln
      have hu1 : (W.alloc (.cells #[.string (St x.pass), .map x.mb] 154)).cell? ⟨W.heap.size, 1, none⟩ = some (.map x.mb) := HU1.out.cell 1
      have hu2 : ((W.alloc (.cells #[.string (St x.pass), .map x.mb] 154)).alloc (.cells #[.string (St y.b.name), .int .i64 y.b.val, .int .i64 y.b.next, .slice y.A y.b.l.length y.c] 71)).cell? ⟨W.heap.size, 1, none⟩ = some (.map x.mb) := HUB.out.cell 1
      have HE2 : Hid (refE true x.bs.length S.next = Er) := by
        show _ = _
        rw [← HER.out, find_us HMP.out, hf]
        show _ = refE ((findL bkey (x.bs.map (·.b)) (St ch.box)).isSome) (x.bs.map (·.b)).length S.next
        rw [find_b, hf2, List.length_map]
        rfl
      have HNE : Hid (Er ≠ 0) := by show _ ≠ _; rw [← HE2.out]; unfold refE; simp
      have hne : (refE true x.bs.length S.next != 0) = true := by rw [HE2.out]; simpa using HNE.out
      clear hf hf2
      go_wp2_with (first
        | (go_at_call 150; go_must (refine (srefusal_any S.next mu true x.bs.length _).mono ?_); rintro e w2 ⟨rfl, O2⟩; have o2 := oa.then O2; have BU := HUB.out.only O2 (by simp); have B0 := HS.out.only o2 (by simp); have B1 := HC.out.only o2 (by simp); have B3 := HR.out.only o2 (by simp); clear hu1 hu2 hln hlb hlk; have hu0 := BU.cell 0; have hu1 := BU.cell 1; have ul := BU.lt; clear s0 s1 k0 k1 k2 k3 k4 k5 k6 k7 k8 k9 r0 r1 rf0 rf1 rl sl cl; obtain ⟨s0, s1⟩ := bk_two B0; obtain ⟨k0, k1, k2, k3, k4, k5, k6, k7, k8, k9⟩ := bk_ten B1; obtain ⟨r0, r1⟩ := bk_two B3; have rf0 := B3.free 0; have rf1 := B3.free 1; have rl := B3.lt; have sl := B0.lt; have cl := B1.lt))
      exact st_ret3 (s := 4) (u := 5) (v := 6) (by kernel_rfl) (w.heap.size + 1 + 1) _ _ _ _ rfl rfl rfl (bk_store2 B3 _ _) (.inl ⟨HNE.out, by rw [← HE2.out]; rfl, only_store2 (HO.out.then o2) (.inr (by omega)) _ _⟩)
    | none =>
      have hlb := HBX.out.look_no true hsb hf2
      have HUB : Hid (Bk ((W.alloc (.cells #[.string (St x.pass), .map x.mb] 154)).alloc (.cells #[.string ⟨#[]⟩, .int .i64 0, .int .i64 0, .slice none 0 0] 71)) W.heap.size 154 #[.string (St x.pass), .map x.mb]) := (Bk.new W 154 #[.string (St x.pass), .map x.mb]).alloc _
      have oa : Only [] W ((W.alloc (.cells #[.string (St x.pass), .map x.mb] 154)).alloc (.cells #[.string ⟨#[]⟩, .int .i64 0, .int .i64 0, .slice none 0 0] 71)) := ((Only.refl [] W).alloc _).alloc _
      have hln := lenB (HBX.out.keep ((Only.refl [] (W.alloc (.cells #[.string (St x.pass), .map x.mb] 154))).alloc (.cells #[.string ⟨#[]⟩, .int .i64 0, .int .i64 0, .slice none 0 0] 71))).1
      rw [List.length_map] at hln
      have hu1 : (W.alloc (.cells #[.string (St x.pass), .map x.mb] 154)).cell? ⟨W.heap.size, 1, none⟩ = some (.map x.mb) := HU1.out.cell 1
      have hu2 : ((W.alloc (.cells #[.string (St x.pass), .map x.mb] 154)).alloc (.cells #[.string ⟨#[]⟩, .int .i64 0, .int .i64 0, .slice none 0 0] 71)).cell? ⟨W.heap.size, 1, none⟩ = some (.map x.mb) := HUB.out.cell 1
      have HE2 : Hid (refE false x.bs.length S.next = Er) := by
        show _ = _
        rw [← HER.out, find_us HMP.out, hf]
        show _ = refE ((findL bkey (x.bs.map (·.b)) (St ch.box)).isSome) (x.bs.map (·.b)).length S.next
        rw [find_b, hf2, List.length_map]
        rfl
      by_cases he : Er = 0
      · have he2 : refE false x.bs.length S.next = 0 := HE2.out.trans he
        have HWN := Lib.hid (fun (V : World) (o : Only [] W V) (O9 : Only [] (W.alloc (.cells #[.string (St x.pass), .map x.mb] 154)) V) => by
          have hh := withNew_any (K := Kx K w 3) S.next ch.user x.pass ch.box (HUW.out.keep o) (HBX.out.keep O9) (fun x hx => HKX.out x (Nat.le_trans o.size hx)) (by rw [len_us HMP.out]; have := HG.out.few; omega) (by have := HGU.out; omega) (by have := HSZ.out.1; omega) (by have := HSZ.out.2; omega) ⟨by have := HG.out.next; omega, HG.out.next.2⟩
          unfold NewR at hh
          unfold usv stv at hh
          exact hh)
        have HO9 : Hid (Only [] (W.alloc (.cells #[.string (St x.pass), .map x.mb] 154)) ((W.alloc (.cells #[.string (St x.pass), .map x.mb] 154)).alloc (.cells #[.string ⟨#[]⟩, .int .i64 0, .int .i64 0, .slice none 0 0] 71))) := (Only.refl [] _).alloc _
        have HF : Hid (findL Lu.key us (St ch.user) = some x) := hf
        subst he
        clear hf hf2
        go_wp2_with (first
          | (go_at_call 151; refine (HWN.out w2 o2 (HO9.out.then O2)).mono ?_; rintro e w3 ⟨m3, us3, rfl, U3, hm3, O3⟩; have B33 := B3.only O3 (by simp); clear r0 r1 rf0 rf1 rl; obtain ⟨r0, r1⟩ := bk_two B33; have rf0 := B33.free 0; have rf1 := B33.free 1; have rl := B33.lt)
          | (go_at_call 150; go_must (refine (srefusal_any S.next mu false x.bs.length _).mono ?_); rintro e w2 ⟨rfl, O2⟩; have o2 := oa.then O2; have BU := HUB.out.only O2 (by simp); have B0 := HS.out.only o2 (by simp); have B1 := HC.out.only o2 (by simp); have B3 := HR.out.only o2 (by simp); clear hu1 hu2 hln hlb hlk; have hu0 := BU.cell 0; have hu1 := BU.cell 1; have ul := BU.lt; clear s0 s1 k0 k1 k2 k3 k4 k5 k6 k7 k8 k9 r0 r1 rf0 rf1 rl sl cl; obtain ⟨s0, s1⟩ := bk_two B0; obtain ⟨k0, k1, k2, k3, k4, k5, k6, k7, k8, k9⟩ := bk_ten B1; obtain ⟨r0, r1⟩ := bk_two B3; have rf0 := B3.free 0; have rf1 := B3.free 1; have rl := B3.lt; have sl := B0.lt; have cl := B1.lt))
        have OR := only_store2 (g := w.heap.size + 1 + 1) (Only.refl [w.heap.size + 1 + 1] w3) (.inl (by simp)) (.int .i64 (S.next + 1)) (.map (some m3))
        have hf := HF.out
        exact st_ret3 (s := 4) (u := 5) (v := 6) (by kernel_rfl) (w.heap.size + 1 + 1) _ _ _ _ rfl rfl rfl (bk_store2 B33 _ _) (.inr ⟨rfl, some m3, by rw [← HSR.out, find_us HMP.out, hf]; rfl, ⟨us3, (U3.only OR (fun x hx hm => by simp at hm; have := hx.2; omega)).mono (fun x _ hx => hx.1), by rw [hm3]; rw [← HSR.out, find_us HMP.out, hf, HMP.out]; exact congrArg (fun z => putL ukey (Us.having ⟨z, _, _⟩ _) _) HNM.out⟩, only_store2 ((HO.out.then o2).then O3) (.inr (by omega)) _ _⟩)
      · have HNE : Hid (Er ≠ 0) := he
        have hne : (refE false x.bs.length S.next != 0) = true := by rw [HE2.out]; simpa using he
        clear hf hf2 he
        go_wp2_with (first
          | (go_at_call 150; go_must (refine (srefusal_any S.next mu false x.bs.length _).mono ?_); rintro e w2 ⟨rfl, O2⟩; have o2 := oa.then O2; have BU := HUB.out.only O2 (by simp); have B0 := HS.out.only o2 (by simp); have B1 := HC.out.only o2 (by simp); have B3 := HR.out.only o2 (by simp); clear hu1 hu2 hln hlb hlk; have hu0 := BU.cell 0; have hu1 := BU.cell 1; have ul := BU.lt; clear s0 s1 k0 k1 k2 k3 k4 k5 k6 k7 k8 k9 r0 r1 rf0 rf1 rl sl cl; obtain ⟨s0, s1⟩ := bk_two B0; obtain ⟨k0, k1, k2, k3, k4, k5, k6, k7, k8, k9⟩ := bk_ten B1; obtain ⟨r0, r1⟩ := bk_two B3; have rf0 := B3.free 0; have rf1 := B3.free 1; have rl := B3.lt; have sl := B0.lt; have cl := B1.lt))
        exact st_ret3 (s := 4) (u := 5) (v := 6) (by kernel_rfl) (w.heap.size + 1 + 1) _ _ _ _ rfl rfl rfl (bk_store2 B3 _ _) (.inl ⟨HNE.out, by rw [← HE2.out]; rfl, only_store2 (HO.out.then o2) (.inr (by omega)) _ _⟩)
end Go.Proofs.YtgnilldcfpgpaaaGreatDoor
namespace Go.Proofs.YtgnilldcfpgpaaaGreatDoor
open Go.RowKit Go.Maps
def Dos (g : Nat) (ch : Ch) (Au : Option Addr) (cu : Nat) (Ab : Option Addr) (cb : Nat) (fE : List Bx → Bx → Int) (fB : List Bx → Bx → List Bx) (fN : List Bx → Bx → Int) (w : World) : Prop :=
  ∀ V, Only [] w V → ∀ (K' : Nat → Prop) (m : Nat) (bs : List Lb) (pass : List UInt8) (b : Bx) (A : Option Addr) (c : Nat), UIn K' V m bs b A → (∀ x ∈ bs, isB x.b = true) →
    Calls Tryz.prog g #[usv pass (some m), bxv b A c, chv ch Au cu Ab cb] V (UR K' V pass (fE (bs.map (·.b)) b) (fB (bs.map (·.b)) b) (fN (bs.map (·.b)) b))
def wiE (S : Stt) (ch : Ch) (fE : List Bx → Bx → Int) : Int := match S.user ch.user with | none => 7 | some u => match u.box ch.box with | none => 7 | some b => fE u.bs b
def wiS (S : Stt) (ch : Ch) (fB : List Bx → Bx → List Bx) : Stt := match S.user ch.user with | none => S | some u => match u.box ch.box with | none => S | some b => S.having { u with bs := fB u.bs b }
def wiN (S : Stt) (ch : Ch) (fN : List Bx → Bx → Int) : Int := match S.user ch.user with | none => 0 | some u => match u.box ch.box with | none => 0 | some b => fN u.bs b
theorem Us.box_of (u : Lu) (s : List UInt8) : u.us.box s = (findL Lb.key u.bs (St s)).map (·.b) := find_b u.bs (St s)
theorem BsIs.some_ {K : Nat → Prop} {w : World} {mb : Option Nat} {bs : List Lb} (h : BsIs K w mb bs) {s : ByteArray} {y : Lb} (hy : findL Lb.key bs s = some y) : ∃ m, mb = some m := by
  cases mb with
  | some m => exact ⟨m, rfl⟩
  | none =>
    have h1 : bs.map kvB = [] := h.1
    rw [List.map_eq_nil_iff] at h1
    subst h1
    cases hy
set_option maxRecDepth 100000 in
set_option maxHeartbeats 2000000 in
theorem swithin_any {K : Nat → Prop} {w : World} {mu : Option Nat} (S : Stt) (hi : SIn K w mu S) (ch : Ch) {Au Ab : Option Addr} {cu cb : Nat} (hsz : ch.user.length ≤ 12 ∧ ch.box.length ≤ 12) (g : Nat) (eg : ∀ args w, (callFunc g args).run Tryz.prog w = .ok (.enter g args) w) (fE : List Bx → Bx → Int) (fB : List Bx → Bx → List Bx) (fN : List Bx → Bx → Int) (hd : Dos g ch Au cu Ab cb fE fB fN w):
    Calls Tryz.prog 86 #[stv S.next mu, chv ch Au cu Ab cb, .func (.func g) #[] #[]] w (SR K w (wiS S ch fB) (wiE S ch fE) (wiN S ch fN)) := by
  obtain ⟨⟨us, hus, hmap⟩, hK, hg⟩ := hi
  have hf := three_blocks w #[.int .i64 S.next, .map mu] #[.int .i64 ch.kind, .string (St ch.user), .string (St ch.pass), .string (St ch.box), .string (St ch.to), .slice Au ch.uids.length cu, .int .i64 ch.mode, .int .i64 ch.flags, .int .i64 ch.date, .slice Ab ch.body.length cb] #[.int .i64 0, .map none] 91 29 91
  obtain ⟨Er, hEr⟩ : ∃ x : Int, (wiE S ch fE) = x := ⟨_, rfl⟩
  obtain ⟨Sr, hSr⟩ : ∃ x : Stt, (wiS S ch fB) = x := ⟨_, rfl⟩
  rw [hEr, hSr]
  have HER := Lib.hid hEr
  have HSR := Lib.hid hSr
  have HU := Lib.hid hus
  have HMP := Lib.hid hmap
  have HK := Lib.hid hK
  have HG := Lib.hid hg
  have HSZ := Lib.hid hsz
  unfold stv chv
  clear hEr hSr hus hmap hK hg hsz
  obtain ⟨Nr, hNr⟩ : ∃ x : Int, wiN S ch fN = x := ⟨_, rfl⟩
  rw [hNr]
  have HNR := Lib.hid hNr
  have HDG := Lib.hid hd
  clear hNr hd
  go_enter Tryz.func86, Tryz.ntmps86
  go_upto_region 1 with fail
  revert hf
  generalize (((w.alloc (.cells #[.int .i64 S.next, .map mu] 91)).alloc (.cells #[.int .i64 ch.kind, .string (St ch.user), .string (St ch.pass), .string (St ch.box), .string (St ch.to), .slice Au ch.uids.length cu, .int .i64 ch.mode, .int .i64 ch.flags, .int .i64 ch.date, .slice Ab ch.body.length cb] 29)).alloc (.cells #[.int .i64 0, .map none] 91)) = W
  rintro ⟨hS, hC, hR, hO⟩
  obtain ⟨s0, s1⟩ := bk_two hS
  obtain ⟨k0, k1, k2, k3, k4, k5, k6, k7, k8, k9⟩ := bk_ten hC
  obtain ⟨r0, r1⟩ := bk_two hR
  have rf0 := hR.free 0
  have rf1 := hR.free 1
  have rl := hR.lt
  have sl := hS.lt
  have cl := hC.lt
  have HS := Lib.hid hS
  have HC := Lib.hid hC
  have HR := Lib.hid hR
  have HO := Lib.hid hO
  have HKX : Hid (∀ x, W.heap.size ≤ x → Kx K w 3 x) := fun x hx => ⟨HK.out x (by omega), .inr (by omega)⟩
  have HUW : Hid (UsIs (Kx K w 3) W mu us) := HU.out.kx 3 HO.out
  clear hS hC hR hO
  have hsz : (St ch.user).size ≤ maxLen := by rw [St_size]; have := HSZ.out.1; unfold maxLen; omega
  have hsb : (St ch.box).size ≤ maxLen := by rw [St_size]; have := HSZ.out.2; unfold maxLen; omega
  cases hf : findL Lu.key us (St ch.user) with
  | none =>
    have hlk := HUW.out.look_no false hsz hf
    have hlb := (BsIs.none_ K (W.alloc (.cells #[.string ⟨#[]⟩, .map none] 154))).look_no true hsb rfl
    have HE7 : Hid ((7 : Int) = Er) := by show _ = _; rw [← HER.out]; unfold wiE; rw [find_us HMP.out, hf]; rfl
    clear hf
    go_wp2
    exact st_ret3 (s := 6) (u := 7) (v := 8) (by kernel_rfl) (w.heap.size + 1 + 1) _ _ _ _ rfl rfl rfl (((bk_store2 HR.out _ _).alloc _).alloc _) (.inl ⟨by rw [← HE7.out]; decide, by rw [← HE7.out]; rfl, ((only_store2 HO.out (.inr (by omega)) _ _).alloc _).alloc _⟩)
  | some x =>
    have hlk := HUW.out.look false hsz hf
    unfold usv at hlk
    cases hf2 : findL Lb.key x.bs (St ch.box) with
    | none =>
      have hlb := ((HUW.out.find hf).1.keep ((Only.refl [] W).alloc (.cells #[.string (St x.pass), .map x.mb] 154))).look_no true hsb hf2
      have HE7 : Hid ((7 : Int) = Er) := by show _ = _; rw [← HER.out]; unfold wiE; rw [find_us HMP.out, hf]; show _ = (match x.us.box ch.box with | none => 7 | some b => fE x.us.bs b); rw [Us.box_of, hf2]; rfl
      clear hf hf2
      go_wp2
      exact st_ret3 (s := 6) (u := 7) (v := 8) (by kernel_rfl) (w.heap.size + 1 + 1) _ _ _ _ rfl rfl rfl (((bk_store2 HR.out _ _).alloc _).alloc _) (.inl ⟨by rw [← HE7.out]; decide, by rw [← HE7.out]; rfl, ((only_store2 HO.out (.inr (by omega)) _ _).alloc _).alloc _⟩)
    | some y =>
      obtain ⟨m, hm⟩ := (HUW.out.find hf).1.some_ hf2
      rw [hm] at hlk
      have HNM : Hid (ch.user = x.name) := (tx_inj.1 (HUW.out.find hf).2).symm
      have HGU : Hid (GoodU x.us) := HG.out.users x.us (by rw [← HMP.out]; exact List.mem_map_of_mem (findL_some hf).1)
      have HB1 : Hid (BsIs (Kx K w 3) W (some m) x.bs) := by rw [← hm]; exact (HUW.out.find hf).1
      have hlb := (HB1.out.keep ((Only.refl [] W).alloc (.cells #[.string (St x.pass), .map (some m)] 154))).look true hsb hf2
      unfold bxv at hlb
      have HF1 := Lib.hid hf
      have HF2 := Lib.hid hf2
      have HEB : Hid (fE (x.bs.map (·.b)) y.b = Er ∧ S.having { x.us with bs := fB (x.bs.map (·.b)) y.b } = Sr ∧ fN (x.bs.map (·.b)) y.b = Nr) := by
        show _ ∧ _ ∧ _
        have e1 := HER.out
        have e2 := HSR.out
        have e3 := HNR.out
        unfold wiE at e1
        unfold wiS at e2
        unfold wiN at e3
        rw [find_us HMP.out, hf] at e1 e2 e3
        simp only [Option.map_some] at e1 e2 e3
        rw [Us.box_of, hf2] at e1 e2 e3
        exact ⟨e1, e2, e3⟩
      clear hf hf2 hm HER HSR HNR
      have hpk : Bk ((W.alloc (.cells #[.string (St x.pass), .map (some m)] 154)).alloc (.cells #[.string (St y.b.name), .int .i64 y.b.val, .int .i64 y.b.next, .slice y.A y.b.l.length y.c] 71)) w.heap.size 91 #[.int .i64 S.next, .map mu] ∧ Bk ((W.alloc (.cells #[.string (St x.pass), .map (some m)] 154)).alloc (.cells #[.string (St y.b.name), .int .i64 y.b.val, .int .i64 y.b.next, .slice y.A y.b.l.length y.c] 71)) (w.heap.size + 1) 29 #[.int .i64 ch.kind, .string (St ch.user), .string (St ch.pass), .string (St ch.box), .string (St ch.to), .slice Au ch.uids.length cu, .int .i64 ch.mode, .int .i64 ch.flags, .int .i64 ch.date, .slice Ab ch.body.length cb] ∧ Bk ((W.alloc (.cells #[.string (St x.pass), .map (some m)] 154)).alloc (.cells #[.string (St y.b.name), .int .i64 y.b.val, .int .i64 y.b.next, .slice y.A y.b.l.length y.c] 71)) (w.heap.size + 1 + 1) 91 #[.int .i64 0, .map none] ∧ Bk ((W.alloc (.cells #[.string (St x.pass), .map (some m)] 154)).alloc (.cells #[.string (St y.b.name), .int .i64 y.b.val, .int .i64 y.b.next, .slice y.A y.b.l.length y.c] 71)) W.heap.size 154 #[.string (St x.pass), .map (some m)] ∧ Bk ((W.alloc (.cells #[.string (St x.pass), .map (some m)] 154)).alloc (.cells #[.string (St y.b.name), .int .i64 y.b.val, .int .i64 y.b.next, .slice y.A y.b.l.length y.c] 71)) (W.heap.size + 1) 71 #[.string (St y.b.name), .int .i64 y.b.val, .int .i64 y.b.next, .slice y.A y.b.l.length y.c] ∧ Only [] W ((W.alloc (.cells #[.string (St x.pass), .map (some m)] 154)).alloc (.cells #[.string (St y.b.name), .int .i64 y.b.val, .int .i64 y.b.next, .slice y.A y.b.l.length y.c] 71)) :=
        ⟨(HS.out.alloc _).alloc _, (HC.out.alloc _).alloc _, (HR.out.alloc _).alloc _, (Bk.new W _ _).alloc _, by have := Bk.new (W.alloc (.cells #[.string (St x.pass), .map (some m)] 154)) 71 #[.string (St y.b.name), .int .i64 y.b.val, .int .i64 y.b.next, .slice y.A y.b.l.length y.c]; rw [World.size_alloc] at this; exact this, ((Only.refl [] W).alloc _).alloc _⟩
      obtain ⟨p9, hp9⟩ : ∃ p, W.heap.size = p := ⟨_, rfl⟩
      have HP9 : Hid (w.heap.size + 1 + 1 < p9 ∧ W.heap.size = p9) := ⟨by omega, hp9⟩
      rw [hp9] at hpk
      have sl9 : w.heap.size < p9 := by omega
      have cl9 : w.heap.size + 1 < p9 := by omega
      have rl9 : w.heap.size + 1 + 1 < p9 := by omega
      go_upto_region 5 with fail
      revert hpk
      generalize ((W.alloc (.cells #[.string (St x.pass), .map (some m)] 154)).alloc (.cells #[.string (St y.b.name), .int .i64 y.b.val, .int .i64 y.b.next, .slice y.A y.b.l.length y.c] 71)) = W2
      rintro ⟨hS2, hC2, hR2, hU2, hY2, OW⟩
      clear s0 s1 sl k0 k1 k2 k3 k4 k5 k6 k7 k8 k9 cl r0 r1 rf0 rf1 rl hlk hlb hp9 sl9 cl9 rl9
      have HOW : Hid (Only [] w W2) := HO.out.then OW
      have HIN : Hid (UIn (Kx (Kx K w 3) W 2) W2 m x.bs y.b y.A) := by
        have hb := HB1.out.kx 2 OW
        refine ⟨hb, fun z hz => ⟨HKX.out z (Nat.le_trans OW.size hz), .inr (by have := hY2.lt; have := HP9.out.2; omega)⟩, ?_, (hb.find HF2.out).1, ?_⟩
        · have := HGU.out.few
          unfold Lu.us at this
          rw [List.length_map] at this
          omega
        · exact HGU.out.boxes y.b (List.mem_map_of_mem (findL_some HF2.out).1)
      have HDO0 := Lib.hid (HDG.out W2 HOW.out _ m x.bs x.pass y.b y.A y.c HIN.out (fun z hz => HGU.out.boxes z.b (List.mem_map_of_mem hz)))
      have HUX : Hid (UsIs (Kx (Kx K w 3) W 2) W2 mu us) := HUW.out.kx 2 OW
      have HKP : Hid (∀ z, Kx (Kx K w 3) W 2 z → z ∉ [p9]) := fun z hz hh => by have := hz.2; have := HP9.out.2; simp at hh; omega
      have HKS : Hid (∀ z, Kx (Kx K w 3) W 2 z → z ≠ w.heap.size ∧ z ≠ w.heap.size + 1 + 1 ∧ K z) := fun z hz => by have := hz.1.2; exact ⟨by omega, by omega, hz.1.1⟩
      have n9 := HP9.out.1
      have n0 : ¬ (p9 = w.heap.size) := by omega
      have n0' : ¬ (w.heap.size = p9) := by omega
      have n1 : ¬ (p9 = w.heap.size + 1) := by omega
      have n1' : ¬ (w.heap.size + 1 = p9) := by omega
      have n2 : ¬ (p9 = w.heap.size + 1 + 1) := by omega
      have n2' : ¬ (w.heap.size + 1 + 1 = p9) := by omega
      obtain ⟨y0, y1, y2, y3⟩ := bk_four hY2
      have yl := hY2.lt
      obtain ⟨s0, s1⟩ := bk_two hS2; have sl := hS2.lt; have sf1 := hS2.free 1; obtain ⟨k0, k1, k2, k3, k4, k5, k6, k7, k8, k9⟩ := bk_ten hC2; have cl := hC2.lt; obtain ⟨r0, r1⟩ := bk_two hR2; have rf0 := hR2.free 0; have rf1 := hR2.free 1; have rl := hR2.lt; obtain ⟨q0, q1⟩ := bk_two hU2; have qf0 := hU2.free 0; have qf1 := hU2.free 1; have ql := hU2.lt
      have HS2 := Lib.hid hS2
      have HC2 := Lib.hid hC2
      have HR2 := Lib.hid hR2
      have HU2 := Lib.hid hU2
      have HKN : Hid (∀ z, W2.heap.size ≤ z → Kx (Kx K w 3) W 2 z) := HIN.out.kk
      clear hS2 hC2 hR2 hU2 hY2 OW
      by_cases he : Er = 0
      · have HDO : Hid (Calls Tryz.prog g #[.agg #[.string (St x.pass), .map (some m)], .agg #[.string (St y.b.name), .int .i64 y.b.val, .int .i64 y.b.next, .slice y.A y.b.l.length y.c], .agg #[.int .i64 ch.kind, .string (St ch.user), .string (St ch.pass), .string (St ch.box), .string (St ch.to), .slice Au ch.uids.length cu, .int .i64 ch.mode, .int .i64 ch.flags, .int .i64 ch.date, .slice Ab ch.body.length cb]] W2 fun e w' => ∃ mb' lbs, e = .returned (.tuple #[.agg #[.string (St x.pass), .map mb'], .int .i64 Nr, .int .i64 0]) ∧ BsIs (Kx (Kx K w 3) W 2) w' mb' lbs ∧ lbs.map (·.b) = fB (x.bs.map (·.b)) y.b ∧ Only [] W2 w') := by
          refine HDO0.out.mono ?_
          rintro e w' (⟨h, _⟩ | ⟨_, v, rfl, mb', lbs, rfl, h1, h2, h3⟩)
          · exact absurd (HEB.out.1.trans he) h
          · exact ⟨mb', lbs, by rw [HEB.out.2.2]; rfl, h1, h2, h3⟩
        have HWT := Lib.hid (fun (V : World) (mb' : Option Nat) (hu : UsIs (Kx (Kx K w 3) W 2) V mu us) => withU_any hu.1 (St ch.user) hsz (St x.pass) mb' (by rw [List.length_map, len_us HMP.out]; have := HG.out.few; omega))
        have HE0 := Lib.hid he
        clear HDO0
        clear he
        go_wp2_with (first
          | (go_at_fn g; go_must (refine HDO.out.mono ?_); rintro e w3 ⟨mb3, lb3, rfl, H3, hb3, O3⟩; have B0 := HS2.out.only O3 (by simp); have B1 := HC2.out.only O3 (by simp); have B2 := HR2.out.only O3 (by simp); have B9 := HU2.out.only O3 (by simp); clear y0 y1 y2 y3 yl; clear s0 s1 sl sf1 k0 k1 k2 k3 k4 k5 k6 k7 k8 k9 cl r0 r1 rf0 rf1 rl q0 q1 qf0 qf1 ql; obtain ⟨s0, s1⟩ := bk_two B0; have sl := B0.lt; have sf1 := B0.free 1; obtain ⟨k0, k1, k2, k3, k4, k5, k6, k7, k8, k9⟩ := bk_ten B1; have cl := B1.lt; obtain ⟨r0, r1⟩ := bk_two B2; have rf0 := B2.free 0; have rf1 := B2.free 1; have rl := B2.lt; obtain ⟨q0, q1⟩ := bk_two B9; have qf0 := B9.free 0; have qf1 := B9.free 1; have ql := B9.lt; have OS := only_store2 (g := p9) (Only.refl [p9] w3) (.inl (by simp)) (.string (St x.pass)) (.map mb3); have HU3 := Lib.hid ((HUX.out.keep O3).only OS HKP.out))
          | (go_at_call 152; go_must (refine (HWT.out _ mb3 HU3.out).mono ?_); rintro e w4 ⟨m4, rfl, K4, O4, M4⟩; have D0 := (B0.only OS (by simpa using n0')).only O4 (by simp); have D1 := (B1.only OS (by simpa using n1')).only O4 (by simp); have D2 := (B2.only OS (by simpa using n2')).only O4 (by simp); have D9 := (bk_store2 B9 (.string (St x.pass)) (.map mb3)).only O4 (by simp); clear s0 s1 sl sf1 k0 k1 k2 k3 k4 k5 k6 k7 k8 k9 cl r0 r1 rf0 rf1 rl q0 q1 qf0 qf1 ql; obtain ⟨s0, s1⟩ := bk_two D0; have sl := D0.lt; have sf1 := D0.free 1; obtain ⟨k0, k1, k2, k3, k4, k5, k6, k7, k8, k9⟩ := bk_ten D1; have cl := D1.lt; obtain ⟨r0, r1⟩ := bk_two D2; have rf0 := D2.free 0; have rf1 := D2.free 1; have rl := D2.lt; obtain ⟨q0, q1⟩ := bk_two D9; have qf0 := D9.free 0; have qf1 := D9.free 1; have ql := D9.lt))
        have OS1 : Only [w.heap.size] w4 (w4.setCell ⟨w.heap.size, 1, none⟩ (.map (some m4))) := (Only.refl _ _).setCell (p := ⟨w.heap.size, 1, none⟩) (.inl (by simp)) _
        have hu4 := UsIs.put (u := ⟨ch.user, x.pass, mb3, lb3⟩) HU3.out (fun z hz => HKN.out z (by have := O3.size; have := OS.size; omega)) (H3.only OS HKP.out) K4 O4 M4
        have hu5 := (hu4.only OS1 (fun z hz hh => (HKS.out z hz).1 (by simpa using hh))).only (only_store2 (g := w.heap.size + 1 + 1) (Only.refl [w.heap.size + 1 + 1] (w4.setCell ⟨w.heap.size, 1, none⟩ (.map (some m4)))) (.inl (by simp)) (.int .i64 S.next) (.map (some m4))) (fun z hz hh => (HKS.out z hz).2.1 (by simpa using hh))
        refine st_ret3 (s := 6) (u := 7) (v := 8) (by kernel_rfl) (w.heap.size + 1 + 1) _ _ _ _ rfl rfl rfl (bk_store2 (D2.only OS1 (by simp; omega)) _ _) (.inr ⟨HE0.out, some m4, ?_, ⟨_, hu5.mono (fun z _ hz => (HKS.out z hz).2.2), ?_⟩, ?_⟩)
        · rw [← HEB.out.2.1]
          rfl
        · rw [← put_u, HMP.out, ← HEB.out.2.1]
          show putL ukey ⟨ch.user, x.pass, lb3.map (·.b)⟩ S.us = putL ukey ⟨x.name, x.pass, fB (x.bs.map (·.b)) y.b⟩ S.us
          rw [hb3, HNM.out]
        · exact only_store2 (((only_store2 (HOW.out.then O3) (.inr (by omega)) _ _).then O4).setCell (p := ⟨w.heap.size, 1, none⟩) (.inr (Nat.le_refl _)) _) (.inr (by omega)) _ _
      · have HDO : Hid (Calls Tryz.prog g #[.agg #[.string (St x.pass), .map (some m)], .agg #[.string (St y.b.name), .int .i64 y.b.val, .int .i64 y.b.next, .slice y.A y.b.l.length y.c], .agg #[.int .i64 ch.kind, .string (St ch.user), .string (St ch.pass), .string (St ch.box), .string (St ch.to), .slice Au ch.uids.length cu, .int .i64 ch.mode, .int .i64 ch.flags, .int .i64 ch.date, .slice Ab ch.body.length cb]] W2 fun e w' => e = .returned (.tuple #[.agg #[.string ⟨#[]⟩, .map none], .int .i64 0, .int .i64 Er]) ∧ Only [] W2 w') := by
          refine HDO0.out.mono ?_
          rintro e w' (⟨_, rfl, h3⟩ | ⟨h, _⟩)
          · exact ⟨by rw [HEB.out.1], h3⟩
          · exact absurd (HEB.out.1.symm.trans h) he
        have HNE : Hid (Er ≠ 0) := he
        have hne : (Er != 0) = true := by simpa using he
        clear HDO0 he
        go_wp2_with (go_at_fn g; go_must (refine HDO.out.mono ?_); rintro e w3 ⟨rfl, O3⟩; have B0 := HS2.out.only O3 (by simp); have B1 := HC2.out.only O3 (by simp); have B2 := HR2.out.only O3 (by simp); have B9 := HU2.out.only O3 (by simp); clear y0 y1 y2 y3 yl; clear s0 s1 sl sf1 k0 k1 k2 k3 k4 k5 k6 k7 k8 k9 cl r0 r1 rf0 rf1 rl q0 q1 qf0 qf1 ql; obtain ⟨s0, s1⟩ := bk_two B0; have sl := B0.lt; have sf1 := B0.free 1; obtain ⟨k0, k1, k2, k3, k4, k5, k6, k7, k8, k9⟩ := bk_ten B1; have cl := B1.lt; obtain ⟨r0, r1⟩ := bk_two B2; have rf0 := B2.free 0; have rf1 := B2.free 1; have rl := B2.lt; obtain ⟨q0, q1⟩ := bk_two B9; have qf0 := B9.free 0; have qf1 := B9.free 1; have ql := B9.lt)
        have OS := only_store2 (g := p9) (Only.refl [p9] w3) (.inl (by simp)) (.string ⟨#[]⟩) (.map none)
        exact st_ret3 (s := 6) (u := 7) (v := 8) (by kernel_rfl) (w.heap.size + 1 + 1) _ _ _ _ rfl rfl rfl (bk_store2 (B2.only OS (by simpa using n2')) _ _) (.inl ⟨HNE.out, rfl, only_store2 (only_store2 (HOW.out.then O3) (.inr (by omega)) _ _) (.inr (by omega)) _ _⟩)
end Go.Proofs.YtgnilldcfpgpaaaGreatDoor
namespace Go.Proofs.YtgnilldcfpgpaaaGreatDoor
open Go.RowKit Go.Maps
set_option maxRecDepth 100000 in
set_option maxHeartbeats 2000000 in
theorem mark_any {K : Nat → Prop} {w : World} {m : Nat} {bs : List Lb} (pass : List UInt8) (b : Bx) {A : Option Addr} {c : Nat} (hi : UIn K w m bs b A) (ch : Ch) {Au Ab : Option Addr} {cu cb : Nat} (hUd : Sl w Au ch.uids.length (ivs ch.uids)) (hUn : ch.uids.length ≤ 140737488355328) :
    Calls Tryz.prog 90 #[usv pass (some m), bxv b A c, chv ch Au cu Ab cb] w (UR K w pass (0) (putL bkey (markB b ch.uids ch.mode ch.flags) (bs.map (·.b))) ((markN ch.uids ch.mode ch.flags b.l : Int))) := by
  obtain ⟨Er, hEr⟩ : ∃ x : Int, (0) = x := ⟨_, rfl⟩
  obtain ⟨Br, hBr⟩ : ∃ x, (putL bkey (markB b ch.uids ch.mode ch.flags) (bs.map (·.b))) = x := ⟨_, rfl⟩
  obtain ⟨Nr, hNr⟩ : ∃ x : Int, ((markN ch.uids ch.mode ch.flags b.l : Int)) = x := ⟨_, rfl⟩
  rw [hEr, hBr, hNr]
  have HER := Lib.hid hEr
  have HBR := Lib.hid hBr
  have HNR := Lib.hid hNr
  clear hEr hBr hNr
  obtain ⟨h, hK, hl, hb, hg⟩ := hi
  obtain ⟨z1, z2, z3, z4, z5, z6⟩ := isB_zero hg
  have HZ := Lib.hid (And.intro z1 (And.intro z2 (And.intro z3 (And.intro z4 hl))))
  clear z1 z2 z3 z4 z5 z6 hl hg
  have hf := four_blocks w #[.string (St pass), .map (some m)] #[.string (St b.name), .int .i64 b.val, .int .i64 b.next, .slice A b.l.length c] #[.int .i64 ch.kind, .string (St ch.user), .string (St ch.pass), .string (St ch.box), .string (St ch.to), .slice Au ch.uids.length cu, .int .i64 ch.mode, .int .i64 ch.flags, .int .i64 ch.date, .slice Ab ch.body.length cb] #[.string ⟨#[]⟩, .map none] 154 71 29 154
  obtain ⟨tp, htp⟩ : ∃ t, St pass = t := ⟨_, rfl⟩
  have HTP : Hid (∀ mb, usv pass mb = .agg #[.string tp, .map mb]) := fun mb => by unfold usv; rw [htp]
  have HM := Lib.hid (And.intro h hb)
  have HK := Lib.hid hK
  unfold usv bxv chv
  rw [htp] at hf ⊢
  have HUD := Lib.hid (And.intro hUd hUn)
  clear hUd hUn
  clear h hb hK htp
  go_enter Tryz.func90, Tryz.ntmps90
  go_upto_region 1 with fail
  revert hf
  generalize ((((w.alloc (.cells #[.string (tp), .map (some m)] 154)).alloc (.cells #[.string (St b.name), .int .i64 b.val, .int .i64 b.next, .slice A b.l.length c] 71)).alloc (.cells #[.int .i64 ch.kind, .string (St ch.user), .string (St ch.pass), .string (St ch.box), .string (St ch.to), .slice Au ch.uids.length cu, .int .i64 ch.mode, .int .i64 ch.flags, .int .i64 ch.date, .slice Ab ch.body.length cb] 29)).alloc (.cells #[.string ⟨#[]⟩, .map none] 154)) = W
  rintro ⟨hU, hB, hC, hR, hO⟩
  obtain ⟨c0, c1⟩ := bk_two hU
  obtain ⟨d0, d1, d2, d3⟩ := bk_four hB
  obtain ⟨k0, k1, k2, k3, k4, k5, k6, k7, k8, k9⟩ := bk_ten hC
  obtain ⟨r0, r1⟩ := bk_two hR
  have f1 := hU.free 1
  have ul := hU.lt
  have bl := hB.lt
  have rf0 := hR.free 0
  have rf1 := hR.free 1
  have rl := hR.lt
  have HU := Lib.hid hU
  have HB := Lib.hid hB
  have HC := Lib.hid hC
  have HR := Lib.hid hR
  have HO := Lib.hid hO
  clear hU hB hC hR hO
  have HKX : Hid (∀ x, W.heap.size ≤ x → Kx K w 4 x) := fun x hx => ⟨HK.out x (by omega), .inr (by omega)⟩
  have HBK : Hid (BsIs (Kx K w 4) W (some m) bs) := HM.out.1.kx 4 HO.out
  have HMS : Hid (Ms (Kx K w 4) W A b.l.length b.l) := HM.out.2.kx 4 HO.out
  obtain ⟨b2, hb2⟩ : ∃ x, markB b ch.uids ch.mode ch.flags = x := ⟨_, rfl⟩
  have HN2 : Hid (b2.name = b.name) := by show _ = _; rw [← hb2]; rfl
  obtain rfl : 0 = Er := HER.out
  have HA := Lib.hid (Mark_any (c := c) b HMS.out HZ.out.1 HZ.out.2.1 (fun x hx => HKX.out x hx) Au ch.uids.length cu ch.uids (HUD.out.1.keep HO.out) HUD.out.2 ch.mode ch.flags)
  rw [hb2] at HA
  rw [hb2] at HBR
  unfold Markd bxv at HA
  simp only [HNR.out] at HA
  clear hb2
  have HHV := Lib.hid (fun (V : World) (A2 : Option Addr) (c2 : Nat) (o : Only [w.heap.size + 1] W V) (hm : Ms (Kx K w 4) V A2 b2.l.length b2.l) => by
    have hh := having_any (c := c2) pass (HBK.out.only o (fun x hx hm => by simp at hm; have := hx.2; omega)) (fun x hx => HKX.out x (Nat.le_trans o.size hx)) (by have := HZ.out.2.2.2.2; omega) b2 hm (by rw [HN2.out]; have := HZ.out.2.2.2.1; omega)
    simp only [HTP.out] at hh
    unfold bxv at hh
    exact hh)
  go_wp2_with (first
    | (go_at_call 154; refine (HHV.out _ A2 c2 O24 M4).mono ?_; rintro e w5 ⟨v5, rfl, mb2, lb2, hv5, HB5, hm5, O5⟩; rw [HTP.out] at hv5; subst hv5; have B53 := (B3.only OS4 (by rw [List.mem_singleton]; omega)).only O5 (by simp); have O05 := (((HO.out.then O2).trans OS4 (fun x hx => .inr (by simp at hx; omega))).then O5); clear r0 r1 rf0 rf1 rl; obtain ⟨r0, r1⟩ := bk_two B53; have rf0 := B53.free 0; have rf1 := B53.free 1; have rl := B53.lt)
    | (go_at_call 82; go_must (refine HA.out.mono ?_); rintro e w2 ⟨A2, c2, rfl, M2, O2⟩; have OS4 := only_store (g := w.heap.size + 1) (Only.refl [w.heap.size + 1] w2) (.inl (by simp)) (.string (St b2.name)) (.int .i64 b2.val) (.int .i64 b2.next) (.slice A2 b2.l.length c2); have O24 := (O2.mono (ss := [w.heap.size + 1]) (fun _ hx => nomatch hx)).trans OS4 (fun x hx => .inl hx); have M4 := M2.only OS4 (fun x hx hm => by simp at hm; have := hx.2; omega); have B0 := HU.out.only O2 (by simp); have B1 := HB.out.only O2 (by simp); have B3 := HR.out.only O2 (by simp); clear c0 c1 d0 d1 d2 d3 r0 r1 f1 ul bl rf0 rf1 rl; obtain ⟨c0, c1⟩ := bk_two B0; obtain ⟨d0, d1, d2, d3⟩ := bk_four B1; have df0 := B1.free 0; have df1 := B1.free 1; have df2 := B1.free 2; have df3 := B1.free 3; have bl := B1.lt; obtain ⟨r0, r1⟩ := bk_two B3; have rf0 := B3.free 0; have rf1 := B3.free 1; have rl := B3.lt))
  have OR := only_store2 (g := w.heap.size + 1 + 1 + 1) (Only.refl [w.heap.size + 1 + 1 + 1] w5) (.inl (by simp)) (.string tp) (.map mb2)
  exact us_ret3 (s := 6) (u := 7) (v := 8) (by kernel_rfl) (w.heap.size + 1 + 1 + 1) _ _ _ _ rfl rfl rfl (bk_store2 B53 _ _) (.inr ⟨rfl, _, rfl, mb2, lb2, (HTP.out _).symm, HB5.unkx OR (fun x hx => by simp at hx; omega), hm5.trans HBR.out, only_store2 O05 (.inr (by omega)) _ _⟩)
set_option maxRecDepth 100000 in
set_option maxHeartbeats 2000000 in
theorem expunge_any {K : Nat → Prop} {w : World} {m : Nat} {bs : List Lb} (pass : List UInt8) (b : Bx) {A : Option Addr} {c : Nat} (hi : UIn K w m bs b A) (ch : Ch) {Au Ab : Option Addr} {cu cb : Nat} (hUd : Sl w Au ch.uids.length (ivs ch.uids)) (hUn : ch.uids.length ≤ 140737488355328) :
    Calls Tryz.prog 91 #[usv pass (some m), bxv b A c, chv ch Au cu Ab cb] w (UR K w pass (0) (putL bkey (expB b ch.uids) (bs.map (·.b))) (((goneL ch.uids b.l).length : Int))) := by
  obtain ⟨Er, hEr⟩ : ∃ x : Int, (0) = x := ⟨_, rfl⟩
  obtain ⟨Br, hBr⟩ : ∃ x, (putL bkey (expB b ch.uids) (bs.map (·.b))) = x := ⟨_, rfl⟩
  obtain ⟨Nr, hNr⟩ : ∃ x : Int, (((goneL ch.uids b.l).length : Int)) = x := ⟨_, rfl⟩
  rw [hEr, hBr, hNr]
  have HER := Lib.hid hEr
  have HBR := Lib.hid hBr
  have HNR := Lib.hid hNr
  clear hEr hBr hNr
  obtain ⟨h, hK, hl, hb, hg⟩ := hi
  obtain ⟨z1, z2, z3, z4, z5, z6⟩ := isB_zero hg
  have HZ := Lib.hid (And.intro z1 (And.intro z2 (And.intro z3 (And.intro z4 hl))))
  clear z1 z2 z3 z4 z5 z6 hl hg
  have hf := four_blocks w #[.string (St pass), .map (some m)] #[.string (St b.name), .int .i64 b.val, .int .i64 b.next, .slice A b.l.length c] #[.int .i64 ch.kind, .string (St ch.user), .string (St ch.pass), .string (St ch.box), .string (St ch.to), .slice Au ch.uids.length cu, .int .i64 ch.mode, .int .i64 ch.flags, .int .i64 ch.date, .slice Ab ch.body.length cb] #[.string ⟨#[]⟩, .map none] 154 71 29 154
  obtain ⟨tp, htp⟩ : ∃ t, St pass = t := ⟨_, rfl⟩
  have HTP : Hid (∀ mb, usv pass mb = .agg #[.string tp, .map mb]) := fun mb => by unfold usv; rw [htp]
  have HM := Lib.hid (And.intro h hb)
  have HK := Lib.hid hK
  unfold usv bxv chv
  rw [htp] at hf ⊢
  have HUD := Lib.hid (And.intro hUd hUn)
  clear hUd hUn
  clear h hb hK htp
  go_enter Tryz.func91, Tryz.ntmps91
  go_upto_region 1 with fail
  revert hf
  generalize ((((w.alloc (.cells #[.string (tp), .map (some m)] 154)).alloc (.cells #[.string (St b.name), .int .i64 b.val, .int .i64 b.next, .slice A b.l.length c] 71)).alloc (.cells #[.int .i64 ch.kind, .string (St ch.user), .string (St ch.pass), .string (St ch.box), .string (St ch.to), .slice Au ch.uids.length cu, .int .i64 ch.mode, .int .i64 ch.flags, .int .i64 ch.date, .slice Ab ch.body.length cb] 29)).alloc (.cells #[.string ⟨#[]⟩, .map none] 154)) = W
  rintro ⟨hU, hB, hC, hR, hO⟩
  obtain ⟨c0, c1⟩ := bk_two hU
  obtain ⟨d0, d1, d2, d3⟩ := bk_four hB
  obtain ⟨k0, k1, k2, k3, k4, k5, k6, k7, k8, k9⟩ := bk_ten hC
  obtain ⟨r0, r1⟩ := bk_two hR
  have f1 := hU.free 1
  have ul := hU.lt
  have bl := hB.lt
  have rf0 := hR.free 0
  have rf1 := hR.free 1
  have rl := hR.lt
  have HU := Lib.hid hU
  have HB := Lib.hid hB
  have HC := Lib.hid hC
  have HR := Lib.hid hR
  have HO := Lib.hid hO
  clear hU hB hC hR hO
  have HKX : Hid (∀ x, W.heap.size ≤ x → Kx K w 4 x) := fun x hx => ⟨HK.out x (by omega), .inr (by omega)⟩
  have HBK : Hid (BsIs (Kx K w 4) W (some m) bs) := HM.out.1.kx 4 HO.out
  have HMS : Hid (Ms (Kx K w 4) W A b.l.length b.l) := HM.out.2.kx 4 HO.out
  obtain ⟨b2, hb2⟩ : ∃ x, expB b ch.uids = x := ⟨_, rfl⟩
  have HN2 : Hid (b2.name = b.name) := by show _ = _; rw [← hb2]; rfl
  obtain rfl : 0 = Er := HER.out
  have HA := Lib.hid (Expunge_any (c := c) b HMS.out HZ.out.1 HZ.out.2.1 (fun x hx => HKX.out x hx) Au ch.uids.length cu ch.uids (HUD.out.1.keep HO.out) HUD.out.2)
  rw [hb2] at HA
  rw [hb2] at HBR
  unfold Expd bxv at HA
  obtain ⟨gl, hgl⟩ : ∃ n, (goneL ch.uids b.l).length = n := ⟨_, rfl⟩
  rw [hgl] at HA HNR
  obtain rfl : (gl : Int) = Nr := HNR.out
  clear hb2 hgl HNR
  have HHV := Lib.hid (fun (V : World) (A2 : Option Addr) (c2 : Nat) (o : Only [w.heap.size + 1] W V) (hm : Ms (Kx K w 4) V A2 b2.l.length b2.l) => by
    have hh := having_any (c := c2) pass (HBK.out.only o (fun x hx hm => by simp at hm; have := hx.2; omega)) (fun x hx => HKX.out x (Nat.le_trans o.size hx)) (by have := HZ.out.2.2.2.2; omega) b2 hm (by rw [HN2.out]; have := HZ.out.2.2.2.1; omega)
    simp only [HTP.out] at hh
    unfold bxv at hh
    exact hh)
  go_wp2_with (first
    | (go_at_call 154; refine (HHV.out _ A2 c2 O24 M4).mono ?_; rintro e w5 ⟨v5, rfl, mb2, lb2, hv5, HB5, hm5, O5⟩; rw [HTP.out] at hv5; subst hv5; have B53 := (B3.only OS4 (by rw [List.mem_singleton]; omega)).only O5 (by simp); have O05 := (((HO.out.then O2).trans OS4 (fun x hx => .inr (by simp at hx; omega))).then O5); clear r0 r1 rf0 rf1 rl; obtain ⟨r0, r1⟩ := bk_two B53; have rf0 := B53.free 0; have rf1 := B53.free 1; have rl := B53.lt)
    | (go_at_call 156; go_must (refine HA.out.mono ?_); rintro e w2 ⟨A2, c2, Ag, cg, rfl, M2, G2, F2, O2⟩; have OS4 := only_store (g := w.heap.size + 1) (Only.refl [w.heap.size + 1] w2) (.inl (by simp)) (.string (St b2.name)) (.int .i64 b2.val) (.int .i64 b2.next) (.slice A2 b2.l.length c2); have O24 := (O2.mono (ss := [w.heap.size + 1]) (fun _ hx => nomatch hx)).trans OS4 (fun x hx => .inl hx); have M4 := M2.only OS4 (fun x hx hm => by simp at hm; have := hx.2; omega); have B0 := HU.out.only O2 (by simp); have B1 := HB.out.only O2 (by simp); have B3 := HR.out.only O2 (by simp); clear c0 c1 d0 d1 d2 d3 r0 r1 f1 ul bl rf0 rf1 rl; obtain ⟨c0, c1⟩ := bk_two B0; obtain ⟨d0, d1, d2, d3⟩ := bk_four B1; have df0 := B1.free 0; have df1 := B1.free 1; have df2 := B1.free 2; have df3 := B1.free 3; have bl := B1.lt; obtain ⟨r0, r1⟩ := bk_two B3; have rf0 := B3.free 0; have rf1 := B3.free 1; have rl := B3.lt))
  have OR := only_store2 (g := w.heap.size + 1 + 1 + 1) (Only.refl [w.heap.size + 1 + 1 + 1] w5) (.inl (by simp)) (.string tp) (.map mb2)
  exact us_ret3 (s := 6) (u := 7) (v := 8) (by kernel_rfl) (w.heap.size + 1 + 1 + 1) _ _ _ _ rfl rfl rfl (bk_store2 B53 _ _) (.inr ⟨rfl, _, rfl, mb2, lb2, (HTP.out _).symm, HB5.unkx OR (fun x hx => by simp at hx; omega), hm5.trans HBR.out, only_store2 O05 (.inr (by omega)) _ _⟩)
end Go.Proofs.YtgnilldcfpgpaaaGreatDoor
namespace Go.Proofs.YtgnilldcfpgpaaaGreatDoor
open Go.RowKit Go.Maps
set_option maxRecDepth 100000 in
set_option maxHeartbeats 2000000 in
theorem urename_any {K : Nat → Prop} {w : World} {m : Nat} {bs : List Lb} (pass : List UInt8) (b : Bx) {A : Option Addr} {c : Nat} (hi : UIn K w m bs b A) (ch : Ch) {Au Ab : Option Addr} {cu cb : Nat} (hto : ch.to.length ≤ 12) :
    Calls Tryz.prog 88 #[usv pass (some m), bxv b A c, chv ch Au cu Ab cb] w (UR K w pass (if b.name = inboxL then 11 else if (findL bkey (bs.map (·.b)) (tx ch.to)).isSome then 8 else 0) (putL bkey { b with name := ch.to } (delL bkey (bs.map (·.b)) (tx b.name))) (0)) := by
  obtain ⟨Er, hEr⟩ : ∃ x : Int, (if b.name = inboxL then 11 else if (findL bkey (bs.map (·.b)) (tx ch.to)).isSome then 8 else 0) = x := ⟨_, rfl⟩
  obtain ⟨Br, hBr⟩ : ∃ x, (putL bkey { b with name := ch.to } (delL bkey (bs.map (·.b)) (tx b.name))) = x := ⟨_, rfl⟩
  obtain ⟨Nr, hNr⟩ : ∃ x : Int, (0) = x := ⟨_, rfl⟩
  rw [hEr, hBr, hNr]
  have HER := Lib.hid hEr
  have HBR := Lib.hid hBr
  have HNR := Lib.hid hNr
  clear hEr hBr hNr
  obtain ⟨h, hK, hl, hb, hg⟩ := hi
  obtain ⟨z1, z2, z3, z4, z5, z6⟩ := isB_zero hg
  have HZ := Lib.hid (And.intro z1 (And.intro z2 (And.intro z3 (And.intro z4 hl))))
  clear z1 z2 z3 z4 z5 z6 hl hg
  have hf := four_blocks w #[.string (St pass), .map (some m)] #[.string (St b.name), .int .i64 b.val, .int .i64 b.next, .slice A b.l.length c] #[.int .i64 ch.kind, .string (St ch.user), .string (St ch.pass), .string (St ch.box), .string (St ch.to), .slice Au ch.uids.length cu, .int .i64 ch.mode, .int .i64 ch.flags, .int .i64 ch.date, .slice Ab ch.body.length cb] #[.string ⟨#[]⟩, .map none] 154 71 29 154
  obtain ⟨tp, htp⟩ : ∃ t, St pass = t := ⟨_, rfl⟩
  have HTP : Hid (∀ mb, usv pass mb = .agg #[.string tp, .map mb]) := fun mb => by unfold usv; rw [htp]
  have HM := Lib.hid (And.intro h hb)
  have HK := Lib.hid hK
  unfold usv bxv chv
  rw [htp] at hf ⊢
  have hin := tx_inbox2 b.name
  obtain ⟨ib, hib⟩ : ∃ q, decide (b.name = inboxL) = q := ⟨_, rfl⟩
  rw [hib] at hin
  have HIB := Lib.hid hib
  have HTO := Lib.hid hto
  clear hto
  clear h hb hK htp
  go_enter Tryz.func88, Tryz.ntmps88
  go_upto_region 1 with fail
  revert hf
  generalize ((((w.alloc (.cells #[.string (tp), .map (some m)] 154)).alloc (.cells #[.string (St b.name), .int .i64 b.val, .int .i64 b.next, .slice A b.l.length c] 71)).alloc (.cells #[.int .i64 ch.kind, .string (St ch.user), .string (St ch.pass), .string (St ch.box), .string (St ch.to), .slice Au ch.uids.length cu, .int .i64 ch.mode, .int .i64 ch.flags, .int .i64 ch.date, .slice Ab ch.body.length cb] 29)).alloc (.cells #[.string ⟨#[]⟩, .map none] 154)) = W
  rintro ⟨hU, hB, hC, hR, hO⟩
  obtain ⟨c0, c1⟩ := bk_two hU
  obtain ⟨d0, d1, d2, d3⟩ := bk_four hB
  obtain ⟨k0, k1, k2, k3, k4, k5, k6, k7, k8, k9⟩ := bk_ten hC
  obtain ⟨r0, r1⟩ := bk_two hR
  have f1 := hU.free 1
  have ul := hU.lt
  have bl := hB.lt
  have rf0 := hR.free 0
  have rf1 := hR.free 1
  have rl := hR.lt
  have HU := Lib.hid hU
  have HB := Lib.hid hB
  have HC := Lib.hid hC
  have HR := Lib.hid hR
  have HO := Lib.hid hO
  clear hU hB hC hR hO
  have HKX : Hid (∀ x, W.heap.size ≤ x → Kx K w 4 x) := fun x hx => ⟨HK.out x (by omega), .inr (by omega)⟩
  have HBK : Hid (BsIs (Kx K w 4) W (some m) bs) := HM.out.1.kx 4 HO.out
  have HMS : Hid (Ms (Kx K w 4) W A b.l.length b.l) := HM.out.2.kx 4 HO.out
  obtain ⟨tt, htt⟩ : ∃ t, St ch.to = t := ⟨_, rfl⟩
  have hsz : tt.size ≤ maxLen := by rw [← htt, St_size]; have := HTO.out; unfold maxLen; omega
  have hfb := find_b bs tt
  rw [htt] at k4
  clear hib
  cases ib
  · have HNE : Hid (¬ b.name = inboxL) := by
      show ¬ b.name = inboxL
      exact of_decide_eq_false HIB.out
    cases hf : findL Lb.key bs tt with
    | some x =>
      have hlk := HBK.out.look true hsz hf
      unfold bxv at hlk
      obtain rfl : 8 = Er := by
        rw [← HER.out, if_neg HNE.out, show tx ch.to = tt from htt, hfb, hf]
        rfl
      clear hfb hf
      go_wp2
      exact us_ret3 (s := 6) (u := 7) (v := 8) (by kernel_rfl) (w.heap.size + 1 + 1 + 1) _ _ _ _ rfl rfl rfl ((bk_store2 HR.out _ _).alloc _) (.inl ⟨by decide, rfl, (only_store2 HO.out (.inr (by omega)) _ _).alloc _⟩)
    | none =>
      have hlk := HBK.out.look_no true hsz hf
      obtain rfl : 0 = Er := by
        rw [← HER.out, if_neg HNE.out, show tx ch.to = tt from htt, hfb, hf]
        rfl
      obtain rfl : 0 = Nr := HNR.out
      have oa : Only [] W (W.alloc (.cells #[.string ⟨#[]⟩, .int .i64 0, .int .i64 0, .slice none 0 0] 71)) := (Only.refl [] W).alloc _
      have HW := Lib.hid (withoutB_any (HBK.out.1.keep oa) (St b.name) (by have := HZ.out.2.2.2.1; rw [St_size]; unfold maxLen; omega))
      have HD := Lib.hid (fun (w' : World) (m' : Nat) (hm : KvAt shpB w' m' (delL Prod.fst (bs.map kvB) (St b.name))) (o : Only [] W w') (hn : W.heap.size ≤ m') => BsIs.del HBK.out HKX.out hm o hn)
      have HDB : Hid (delL bkey (bs.map (·.b)) (tx b.name) = (delL Lb.key bs (St b.name)).map (·.b)) := del_b bs (St b.name)
      have HTT := Lib.hid htt
      have HHV := Lib.hid (fun (V : World) (m' : Nat) (hz : W.heap.size ≤ V.heap.size) (hbs : BsIs (Kx K w 4) V (some m') (delL Lb.key bs (St b.name))) (hm : Ms (Kx K w 4) V A b.l.length b.l) => by
        have hh := having_any (c := c) pass hbs (fun x hx => HKX.out x (by omega)) (by have := HZ.out.2.2.2.2; have := length_delL (key := Lb.key) (l := bs) (s := St b.name); omega) { b with name := ch.to } hm (by show ch.to.length ≤ 1000; have := HTO.out; omega)
        simp only [HTP.out] at hh
        unfold bxv at hh
        simp only [HTT.out] at hh
        exact hh)
      have HOA := Lib.hid oa
      clear hfb hf oa htt
      go_wp2_with (first
        | (go_at_call 154; refine (HHV.out _ m' (Nat.le_trans (HOA.out.then O2).size OS.size) (BD2.only OS (fun x hx hm => by simp at hm; have := hx.2; omega)) (((HMS.out.keep HOA.out).keep O2).only OS (fun x hx hm => by simp at hm; have := hx.2; omega))).mono ?_; rintro e w5 ⟨v5, rfl, mb2, lb2, hv5, HB5, hm5, O5⟩; rw [HTP.out] at hv5; subst hv5; have B53 := (B3.only OS (by simp; omega)).only O5 (by simp); have O05 := (((HO.out.then (HOA.out.then O2)).trans OS (fun x hx => .inr (by simp at hx; omega))).then O5); clear r0 r1 rf0 rf1 rl; obtain ⟨r0, r1⟩ := bk_two B53; have rf0 := B53.free 0; have rf1 := B53.free 1; have rl := B53.lt)
        | (go_at_call 153; go_must (refine HW.out.mono ?_); rintro e w2 ⟨m', rfl, K2, O2, M2⟩; have o2 := HOA.out.then O2; have BD2 := HD.out w2 m' K2 o2 (Nat.le_trans HOA.out.size M2); have OS : Only [w.heap.size, w.heap.size + 1] w2 ((w2.setCell ⟨w.heap.size, 1, none⟩ (.map (some m'))).setCell ⟨w.heap.size + 1, 0, none⟩ (.string tt)) := ((Only.refl _ w2).setCell (p := ⟨w.heap.size, 1, none⟩) (.inl (by simp)) _).setCell (p := ⟨w.heap.size + 1, 0, none⟩) (.inl (by simp)) _; have B0 := HU.out.only o2 (by simp); have B1 := HB.out.only o2 (by simp); have B2 := HC.out.only o2 (by simp); have B3 := HR.out.only o2 (by simp); clear c0 c1 d0 d1 d2 d3 k0 k1 k2 k3 k4 k5 k6 k7 k8 k9 r0 r1 f1 ul bl rf0 rf1 rl; obtain ⟨c0, c1⟩ := bk_two B0; have f1 := B0.free 1; have ul := B0.lt; obtain ⟨d0, d1, d2, d3⟩ := bk_four B1; have df0 := B1.free 0; have bl := B1.lt; obtain ⟨k0, k1, k2, k3, k4, k5, k6, k7, k8, k9⟩ := bk_ten B2; rw [HTT.out] at k4; obtain ⟨r0, r1⟩ := bk_two B3; have rf0 := B3.free 0; have rf1 := B3.free 1; have rl := B3.lt))
      have OR := only_store2 (g := w.heap.size + 1 + 1 + 1) (Only.refl [w.heap.size + 1 + 1 + 1] w5) (.inl (by simp)) (.string tp) (.map mb2)
      exact us_ret3 (s := 6) (u := 7) (v := 8) (by kernel_rfl) (w.heap.size + 1 + 1 + 1) _ _ _ _ rfl rfl rfl (bk_store2 B53 _ _) (.inr ⟨rfl, _, rfl, mb2, lb2, (HTP.out _).symm, HB5.unkx OR (fun x hx => by simp at hx; omega), by rw [hm5, ← HBR.out, HDB.out], only_store2 O05 (.inr (by omega)) _ _⟩)
  · have HNE : Hid (b.name = inboxL) := by
      show b.name = inboxL
      exact of_decide_eq_true HIB.out
    obtain rfl : 11 = Er := by rw [← HER.out, if_pos HNE.out]
    clear hfb
    go_wp2
    exact us_ret3 (s := 6) (u := 7) (v := 8) (by kernel_rfl) (w.heap.size + 1 + 1 + 1) _ _ _ _ rfl rfl rfl (bk_store2 HR.out _ _) (.inl ⟨by decide, rfl, only_store2 HO.out (.inr (by omega)) _ _⟩)
end Go.Proofs.YtgnilldcfpgpaaaGreatDoor
