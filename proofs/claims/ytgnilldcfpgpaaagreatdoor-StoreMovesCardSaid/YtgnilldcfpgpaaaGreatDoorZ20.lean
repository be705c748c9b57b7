/-
  Texts of the seat, laid one behind the other: SGood SGet SDoE SCalm SDoP.
-/
import Derived.Test.YtgnilldcfpgpaaaGreatDoorZ9
import Derived.Test.YtgnilldcfpgpaaaGreatDoorZ4
import Derived.Test.YtgnilldcfpgpaaaGreatDoorZ19
namespace Go.Proofs.YtgnilldcfpgpaaaGreatDoor
open Go.RowKit Go.Maps
theorem low5 (n : Int) : bits .and .i64 n 31 = n % 32 := by
  have h16 : (BitVec.ofInt 64 31).toNat = 2 ^ 5 - 1 := by decide
  have key : (BitVec.ofInt 64 n &&& BitVec.ofInt 64 31).toNat = (n % ((2 ^ 64 : Nat) : Int)).toNat % 2 ^ 5 := by
    rw [BitVec.toNat_and, BitVec.toNat_ofInt, h16, Nat.and_two_pow_sub_one_eq_mod]
  show IntKind.i64.wrap ((BitVec.ofInt 64 n &&& BitVec.ofInt 64 31).toNat : Nat) = n % 32
  rw [key, IntKind.wrap_i64]
  omega
theorem apply_in (m o f : Int) : 0 ≤ applyV m o f ∧ applyV m o f ≤ 31 := by
  unfold applyV
  split
  · rw [low5]; omega
  · split
    · rw [low5]; omega
    · split
      · rw [low5]; omega
      · rw [low5]; omega
theorem rises_low {next a b : Int} (h : a ≤ b) : ∀ {l : List Mg}, rises next b l = true → rises next a l = true
  | [], _ => rfl
  | m :: r, hr => by
    simp only [rises, Bool.and_eq_true, mgOk_iff] at hr ⊢
    exact ⟨⟨by omega, hr.1.2⟩, hr.2⟩
theorem rises_filtG {next : Int} (p : Mg → Bool) : ∀ {l : List Mg} {a : Int}, rises next a l = true → rises next a (l.filter p) = true
  | [], _, _ => rfl
  | m :: r, a, hr => by
    simp only [rises, Bool.and_eq_true] at hr
    have ih := rises_filtG p hr.2
    rw [List.filter_cons]
    split
    · simp only [rises, Bool.and_eq_true]
      exact ⟨hr.1, ih⟩
    · have h1 := mgOk_iff.1 hr.1
      exact rises_low (by omega) ih
theorem isB_expG {b : Bx} (h : isB b = true) (us : List Int) : isB (expB b us) = true := by
  rw [isB_iff] at h ⊢
  obtain ⟨g1, g2, g3, g4, g5⟩ := h
  exact ⟨g1, g2, g3, Nat.le_trans (List.length_filter_le _ _) g4, rises_filtG _ g5⟩
theorem isB_new {s : List UInt8} {n : Int} (hs : nameL s = true) (hn : 1 ≤ n ∧ n ≤ 1048576) : isB (newB s n) = true := by
  rw [isB_iff]
  exact ⟨hs, hn, by show 1 ≤ (1 : Int) ∧ (1 : Int) ≤ 1048576; omega, by show 0 ≤ 24; omega, rfl⟩
theorem isB_named {b : Bx} (h : isB b = true) {s : List UInt8} (hs : nameL s = true) : isB { b with name := s } = true := by
  rw [isB_iff] at h ⊢
  exact ⟨hs, h.2⟩
theorem length_del_some {α : Type} {key : α → ByteArray} {l : List α} {s : ByteArray} {x : α} (hr : Rise key l) (h : findL key l s = some x) : (delL key l s).length + 1 = l.length := by
  induction l with
  | nil => cases h
  | cons a r ih =>
    obtain ⟨h1, h2⟩ := List.pairwise_cons.1 hr
    unfold findL at h
    rw [List.find?_cons] at h
    unfold delL at ih ⊢
    rw [List.filter_cons]
    by_cases e : key a = s
    · have hd : r.filter (fun x => !decide (key x = s)) = r := List.filter_eq_self.2 fun y hy => by
        have := bef_ne (h1 y hy)
        simp only [Bool.not_eq_true', decide_eq_false_iff_not]
        intro e2
        exact this (by rw [e, e2])
      simp [e, hd]
    · simp only [e, decide_false] at h
      simp only [e, decide_false, Bool.not_false, if_true, List.length_cons]
      rw [ih h2 h]
theorem length_put_some {α : Type} {key : α → ByteArray} {l : List α} {x y : α} (hr : Rise key l) (h : findL key l (key x) = some y) : (putL key x l).length = l.length := by
  unfold putL
  rw [length_insL, length_del_some hr h]
theorem good_having {u : Us} {b : Bx} (hu : GoodU u) (hb : isB b = true) (hf : u.bs.length < 4 ∨ (u.box b.name).isSome = true) : GoodU (u.having b) := by
  refine ⟨hu.name, hu.pass, hu.rise.put b, fun x hx => ?_, ?_, ?_⟩
  · rcases mem_putL.1 hx with rfl | hx
    · exact hb
    · exact hu.boxes x hx.1
  · show (findL bkey (putL bkey b u.bs) (tx inboxL)).isSome = true
    by_cases e : bkey b = tx inboxL
    · rw [← e, findL_put]; rfl
    · rw [findL_put_ne e]; exact hu.inb
  · show (putL bkey b u.bs).length ≤ 4
    rcases hf with h | h
    · have := length_putL (key := bkey) (x := b) (l := u.bs); omega
    · obtain ⟨y, hy⟩ := Option.isSome_iff_exists.1 h
      rw [length_put_some hu.rise (show findL bkey u.bs (bkey b) = some y from hy)]
      exact hu.few
theorem good_del {u : Us} {s : List UInt8} (hu : GoodU u) (hs : s ≠ inboxL) : GoodU { u with bs := delL bkey u.bs (tx s) } := by
  refine ⟨hu.name, hu.pass, hu.rise.del _, fun x hx => hu.boxes x (mem_delL.1 hx).1, ?_, Nat.le_trans length_delL hu.few⟩
  show (findL bkey (delL bkey u.bs (tx s)) (tx inboxL)).isSome = true
  rw [findL_del_ne (fun e => hs (tx_inj.1 e))]
  exact hu.inb
theorem good_put {S : Stt} {u : Us} {n : Int} (h : GoodS S) (hu : GoodU u) (hn : 1 ≤ n ∧ n ≤ 1048576) (hf : S.us.length < 4 ∨ (S.user u.name).isSome = true) : GoodS ⟨n, putL ukey u S.us⟩ := by
  refine ⟨hn, h.rise.put u, fun x hx => ?_, ?_⟩
  · rcases mem_putL.1 hx with rfl | hx
    · exact hu
    · exact h.users x hx.1
  · show (putL ukey u S.us).length ≤ 4
    rcases hf with hf | hf
    · have := length_putL (key := ukey) (x := u) (l := S.us); omega
    · obtain ⟨y, hy⟩ := Option.isSome_iff_exists.1 hf
      rw [length_put_some h.rise (show findL ukey S.us (ukey u) = some y from hy)]
      exact h.few
theorem refE_zero {a : Bool} {n : Nat} {x : Int} (h : refE a n x = 0) : a = false ∧ n < 4 ∧ x < 1048576 := by
  unfold refE at h
  split at h
  · cases h
  · rename_i ha
    split at h
    · cases h
    · split at h
      · cases h
      · exact ⟨by simpa using ha, by omega, by omega⟩
theorem inbox_name : nameL inboxL = true := by decide
theorem find_name {l : List Bx} {s : List UInt8} {b : Bx} (h : findL bkey l (tx s) = some b) : b.name = s ∧ b ∈ l := ⟨tx_inj.1 (findL_some h).2, (findL_some h).1⟩
theorem find_uname {l : List Us} {s : List UInt8} {u : Us} (h : findL ukey l (tx s) = some u) : u.name = s ∧ u ∈ l := ⟨tx_inj.1 (findL_some h).2, (findL_some h).1⟩
theorem isC_names {c : Ch} (h : isC c = true) : nameL c.user = true ∧ (c.kind = 1 → passOk c.pass = true) ∧ (c.kind ≠ 1 → nameL c.box = true) ∧ (c.kind = 4 ∨ c.kind = 8 → nameL c.to = true) := by
  unfold isC at h
  simp only [Bool.and_eq_true] at h
  obtain ⟨⟨⟨⟨⟨⟨⟨⟨⟨⟨⟨⟨⟨h1, h2⟩, h3⟩, h4⟩, h5⟩, h6⟩, h7⟩, h8⟩, h9⟩, h10⟩, h11⟩, h12⟩, h13⟩, h14⟩ := h
  refine ⟨h3, fun e => ?_, fun e => ?_, fun e => ?_⟩
  · rw [if_pos e] at h4; simp only [Bool.and_eq_true] at h4; exact h4.1
  · rw [if_neg e] at h4; simp only [Bool.and_eq_true] at h4; exact h4.2
  · rw [if_pos e] at h5; exact h5
theorem good_do {S : Stt} {c : Ch} (h : GoodS S) (hc : isC c = true) (he : doE S c = 0) : GoodS (doS S c) := by
  obtain ⟨n1, n2, n3, n4⟩ := isC_names hc
  obtain ⟨hk, _⟩ := isC_small hc
  have hnx := h.next
  unfold doE at he
  unfold doS
  by_cases k1 : c.kind = 1
  · rw [if_pos k1] at he ⊢
    obtain ⟨e1, e2, e3⟩ := refE_zero he
    refine good_put h ?_ (by omega) (.inl e2)
    have hnew : isB (newB inboxL S.next) = true := isB_new inbox_name (by omega)
    refine ⟨n1, n2 k1, List.pairwise_singleton _ _, fun b hb => ?_, ?_, by show (putL bkey (newB inboxL S.next) []).length ≤ 4; simp [putL, delL, insL]⟩
    · have hb2 : b ∈ putL bkey (newB inboxL S.next) [] := hb
      rcases mem_putL.1 hb2 with rfl | hx
      · exact hnew
      · simp at hx
    · show (findL bkey (putL bkey (newB inboxL S.next) []) (tx inboxL)).isSome = true
      have : tx inboxL = bkey (newB inboxL S.next) := rfl
      rw [this, findL_put]; rfl
  · rw [if_neg k1] at he ⊢
    cases hu : S.user c.user with
    | none => rw [hu] at he; cases he
    | some u =>
      rw [hu] at he
      simp only [] at he ⊢
      have hu' := find_uname hu
      have gu := h.users u hu'.2
      have husome : (S.user u.name).isSome = true := by rw [hu'.1, hu]; rfl
      by_cases k2 : c.kind = 2
      · rw [if_pos k2] at he ⊢
        obtain ⟨e1, e2, e3⟩ := refE_zero he
        exact good_put h (good_having gu (isB_new (n3 k1) (by omega)) (.inl e2)) (by omega) (.inr husome)
      · rw [if_neg k2] at he ⊢
        cases hb : u.box c.box with
        | none => rw [hb] at he; cases he
        | some b =>
          rw [hb] at he
          simp only [] at he ⊢
          have hb' := find_name hb
          have ib := gu.boxes b hb'.2
          have hbsome : (u.box b.name).isSome = true := by rw [hb'.1, hb]; rfl
          suffices hs : GoodU (actU u b c) ∧ (actU u b c).name = u.name from good_put h hs.1 hnx (.inr (by rw [hs.2]; exact husome))
          unfold actE at he
          unfold actU
          by_cases k3 : c.kind = 3
          · rw [if_pos k3] at he ⊢
            have hne : b.name ≠ inboxL := fun e => by rw [if_pos e] at he; cases he
            exact ⟨good_del gu hne, rfl⟩
          · rw [if_neg k3] at he ⊢
            by_cases k4 : c.kind = 4
            · rw [if_pos k4] at he ⊢
              have hne : b.name ≠ inboxL := fun e => by rw [if_pos e] at he; cases he
              refine ⟨good_having (good_del gu hne) (isB_named ib (n4 (.inl k4))) (.inl ?_), rfl⟩
              have := length_del_some gu.rise (show findL bkey u.bs (tx b.name) = some b by rw [hb'.1]; exact hb)
              have := gu.few
              show (delL bkey u.bs (tx b.name)).length < 4
              omega
            · rw [if_neg k4] at he ⊢
              by_cases k5 : c.kind = 5
              · rw [if_pos k5]
                have hn : (addB b c.flags c.date c.body).name = b.name := by unfold addB; split <;> rfl
                exact ⟨good_having gu (isB_add ib _ _ _) (.inr (by rw [hn]; exact hbsome)), rfl⟩
              · rw [if_neg k5] at he ⊢
                by_cases k6 : c.kind = 6
                · rw [if_pos k6]
                  exact ⟨good_having gu (isB_markB ib _ _ _ (fun g _ => apply_in _ _ _)) (.inr hbsome), rfl⟩
                · rw [if_neg k6]
                  by_cases k7 : c.kind = 7
                  · rw [if_pos k7]
                    exact ⟨good_having gu (isB_expG ib _) (.inr hbsome), rfl⟩
                  · rw [if_neg k7]
                    cases ht : u.box c.to with
                    | none => exact ⟨gu, rfl⟩
                    | some to =>
                      have ht' := find_name ht
                      have hn : ∀ (ids : List Int) (l : List Mg) (to : Bx), (copyL ids to l).2.1.name = to.name := by
                        intro ids l
                        induction l with
                        | nil => intro to; rfl
                        | cons m r ih =>
                          intro to
                          unfold copyL
                          split
                          · split
                            · show (copyL ids (addB to m.flags m.date m.body) r).2.1.name = to.name
                              rw [ih]
                              unfold addB; split <;> rfl
                            · rfl
                          · exact ih to
                      exact ⟨good_having gu (isB_copyL _ _ (gu.boxes to ht'.2)) (.inr (by rw [hn, ht'.1, ht]; rfl)), rfl⟩
end Go.Proofs.YtgnilldcfpgpaaaGreatDoor
namespace Go.Proofs.YtgnilldcfpgpaaaGreatDoor
open Go.RowKit Go.Maps
def getS (S : Stt) (s t : List UInt8) : Option Bx := match S.user s with | none => none | some u => u.box t
def Got (K : Nat → Prop) (S : Stt) (s t : List UInt8) (w : World) (e : Ending) (w' : World) : Prop :=
  Only [] w w' ∧ ((getS S s t = none ∧ e = .returned (.tuple #[.agg #[.string ⟨#[]⟩, .int .i64 0, .int .i64 0, .slice none 0 0], .bool false])) ∨
    ∃ b A c, getS S s t = some b ∧ isB b = true ∧ e = .returned (.tuple #[bxv b A c, .bool true]) ∧ Ms K w' A b.l.length b.l)
theorem markB_none (b : Bx) (m f : Int) : markB b [] m f = b := by
  obtain ⟨n, v, x, l⟩ := b
  unfold markB
  have : l.map (markM [] m f) = l := by
    conv => rhs; rw [← List.map_id l]
    exact List.map_congr_left fun g _ => rfl
  rw [this]
theorem us_field (t : ByteArray) (mb : Option Nat) (W : World) : (Instr.field 154 (.agg #[.string t, .map mb]) 1).run Tryz.prog W = .ok (.map mb) W := by kernel_rfl
section
variable {w : World} {g d lg : Nat} {img log : ByteArray} {F G : List Nat} {D : Dst} {L : LS} {S : Stt} {mu : Option Nat} {dd : Bool}
set_option maxRecDepth 100000 in
set_option maxHeartbeats 2000000 in
theorem Get_any {K Q : Nat → Prop} (hst : StIs Q w mu S) (h : StoreIs w g d lg img log F G D L S mu dd) (hK : ∀ y, w.heap.size ≤ y → K y) (hKo : ∀ y, y < w.heap.size → Q y → K y) (s t : List UInt8) (hs : s.length ≤ 140737488355328) (ht : t.length ≤ 140737488355328) :
    Calls Tryz.prog 35 #[.pointer (some ⟨g, 0, none⟩), .string (St s), .string (St t)] w (Got K S s t w) := by
  have hsz : (St s).size ≤ maxLen := by rw [St_size]; unfold maxLen; omega
  have htz : (St t).size ≤ maxLen := by rw [St_size]; unfold maxLen; omega
  have hB := Bk.new w 71 #[.string ⟨#[]⟩, .int .i64 0, .int .i64 0, .slice none 0 0]
  have hO : Only [] w (w.alloc (.cells #[.string ⟨#[]⟩, .int .i64 0, .int .i64 0, .slice none 0 0] 71)) := (Only.refl [] w).alloc _
  have hf := And.intro hB hO
  have HH := Lib.hid h
  have HQT := Lib.hid hst
  have HK := Lib.hid hK
  have HKO := Lib.hid hKo
  clear hB hO h hK hKo hst
  obtain ⟨ts, hts⟩ : ∃ x, St s = x := ⟨_, rfl⟩
  obtain ⟨tt, htt⟩ : ∃ x, St t = x := ⟨_, rfl⟩
  have HTS := Lib.hid hts
  have HTT := Lib.hid htt
  rw [hts] at hsz ⊢
  rw [htt] at htz ⊢
  clear hts htt
  go_enter Tryz.func35, Tryz.ntmps35
  go_upto_region 1 with fail
  revert hf
  generalize (w.alloc (.cells #[.string ⟨#[]⟩, .int .i64 0, .int .i64 0, .slice none 0 0] 71)) = W
  rintro ⟨hB, hO⟩
  obtain ⟨us, hus, hmap⟩ := HQT.out
  have HU0 := Lib.hid hus
  have HU := Lib.hid (hus.keep hO)
  have HMP := Lib.hid hmap
  have hbk := HH.out.bk.only hO (by simp)
  obtain ⟨c0, c1, c2, c3⟩ := bk_four hbk
  have hgl := hbk.lt
  obtain ⟨r0, r1, r2, r3⟩ := bk_four hB
  have rf0 := hB.free 0
  have rf1 := hB.free 1
  have rf2 := hB.free 2
  have rf3 := hB.free 3
  have rl := hB.lt
  have HB := Lib.hid hB
  have HO := Lib.hid hO
  clear hB hO hus hmap hbk
  have hfd := us_field
  cases hf : findL Lu.key us ts with
  | none =>
    have hlk := HU.out.look_no false hsz hf
    have hlb := (BsIs.none_ (StK F G g) W).look_no true htz rfl
    have HE : Hid (getS S s t = none) := by show _ = _; unfold getS; rw [find_us HMP.out, HTS.out, hf]; rfl
    clear hf
    go_wp2
    exact bx_ret1 (s := 6) (u := 7) (by kernel_rfl) w.heap.size _ _ _ _ _ rfl rfl ((bk_store HB.out _ _ _ _).alloc _) ⟨(only_store HO.out (.inr (Nat.le_refl _)) _ _ _ _).alloc _, .inl ⟨HE.out, rfl⟩⟩
  | some x =>
    have hlk := HU.out.look false hsz hf
    unfold usv at hlk
    obtain ⟨tp, htp⟩ : ∃ t, St x.pass = t := ⟨_, rfl⟩
    rw [htp] at hlk
    clear htp
    have HXB := Lib.hid (HU.out.find hf).1
    have HXB0 := Lib.hid (HU0.out.find hf).1
    have HUS : Hid (S.user s = some x.us) := by show _ = _; rw [find_us HMP.out, HTS.out, hf]; rfl
    cases hf2 : findL Lb.key x.bs tt with
    | none =>
      have hlb := HXB.out.look_no true htz hf2
      have HE : Hid (getS S s t = none) := by show _ = _; unfold getS; rw [HUS.out]; show Us.box x.us t = none; rw [Us.box_of, HTT.out, hf2]; rfl
      clear hf hf2
      go_wp2
      exact bx_ret1 (s := 6) (u := 7) (by kernel_rfl) w.heap.size _ _ _ _ _ rfl rfl ((bk_store HB.out _ _ _ _).alloc _) ⟨(only_store HO.out (.inr (Nat.le_refl _)) _ _ _ _).alloc _, .inl ⟨HE.out, rfl⟩⟩
    | some y =>
      have hlb := HXB.out.look true htz hf2
      have HMS := Lib.hid (HXB0.out.find hf2).1
      have HE : Hid (getS S s t = some y.b) := by show _ = _; unfold getS; rw [HUS.out]; show Us.box x.us t = some y.b; rw [Us.box_of, HTT.out, hf2]; rfl
      have HG : Hid (isB y.b = true) := by
        have h1 := find_uname (show findL ukey S.us (tx s) = some x.us from HUS.out)
        have h2 : Us.box x.us t = some y.b := by rw [Us.box_of, HTT.out, hf2]; rfl
        exact (HH.out.good.users _ h1.2).boxes _ (find_name h2).2
      clear hf hf2
      obtain ⟨b, A, c⟩ := y
      dsimp only at hlb HE HG HMS
      obtain ⟨z1, z2, z3, z4, z5, z6⟩ := isB_zero HG.out
      have HX := Lib.hid (Bk.new W 71 #[.string (St b.name), .int .i64 b.val, .int .i64 b.next, .slice A b.l.length c])
      have HOV : Hid (Only [] W (W.alloc (.cells #[.string (St b.name), .int .i64 b.val, .int .i64 b.next, .slice A b.l.length c] 71))) := (Only.refl [] W).alloc _
      have HMK : Hid (∀ V, Only [] W V → W.heap.size < V.heap.size → Calls Tryz.prog 82 #[bxv b A c, .slice none 0 0, .int .i64 1, .int .i64 0] V (Markd (fun y => K y ∧ y ≠ w.heap.size ∧ y ≠ W.heap.size) V b (markN [] 1 0 b.l))) := by
        intro V o hlt
        have hmk := Mark_any (S := fun y => K y ∧ y ≠ w.heap.size ∧ y ≠ W.heap.size) (w := V) (c := c) b (A := A) ((HMS.out.lt.mono (fun y hy => ?_)).keep (HO.out.then o)) z1 z2 (fun x hx => ?_) none 0 0 [] (Sl.none_) (by omega) 1 0
        · rw [markB_none] at hmk
          exact hmk
        · have := HO.out.size
          exact ⟨HKO.out y hy.2 hy.1, by have := hy.2; omega, by have := hy.2; omega⟩
        · have := HO.out.size
          exact ⟨HK.out x (by omega), by omega, by omega⟩
      unfold Markd at HMK
      unfold bxv at hlb HMK
      have HMEM : Hid (∀ w2 A2 c2, Ms (fun y => K y ∧ y ≠ w.heap.size ∧ y ≠ W.heap.size) w2 A2 b.l.length b.l → Only [] w w2 → W.heap.size < w2.heap.size → Bk w2 w.heap.size 71 #[.string ⟨#[]⟩, .int .i64 0, .int .i64 0, .slice none 0 0] →
          ∃ w3, w3 = ((((((((w2.setCell ⟨W.heap.size, 0, none⟩ (.string (St b.name))).setCell ⟨W.heap.size, 1, none⟩ (.int .i64 b.val)).setCell ⟨W.heap.size, 2, none⟩ (.int .i64 b.next)).setCell ⟨W.heap.size, 3, none⟩ (.slice A2 b.l.length c2)).setCell ⟨w.heap.size, 0, none⟩ (.string (St b.name))).setCell ⟨w.heap.size, 1, none⟩ (.int .i64 b.val)).setCell ⟨w.heap.size, 2, none⟩ (.int .i64 b.next)).setCell ⟨w.heap.size, 3, none⟩ (.slice A2 b.l.length c2)) ∧
            Bk w3 w.heap.size 71 #[.string (St b.name), .int .i64 b.val, .int .i64 b.next, .slice A2 b.l.length c2] ∧ Only [] w w3 ∧ Ms K w3 A2 b.l.length b.l) := by
        intro w2 A2 c2 hm ho hlt hb
        have hs := HO.out.size
        have o1 := only_store (Only.refl [w.heap.size, W.heap.size] w2) (g := W.heap.size) (.inl (by simp)) (.string (St b.name)) (.int .i64 b.val) (.int .i64 b.next) (.slice A2 b.l.length c2)
        have o1' := only_store (Only.refl [W.heap.size] w2) (g := W.heap.size) (.inl (by simp)) (.string (St b.name)) (.int .i64 b.val) (.int .i64 b.next) (.slice A2 b.l.length c2)
        have o2 := only_store o1 (g := w.heap.size) (.inl (by simp)) (.string (St b.name)) (.int .i64 b.val) (.int .i64 b.next) (.slice A2 b.l.length c2)
        refine ⟨_, rfl, bk_store (hb.only o1' (by simp; omega)) _ _ _ _, ho.trans o2 (fun x hx => .inr (by simp at hx; omega)), ?_⟩
        exact (hm.only o2 (fun y hy hm => by simp at hm; have := hy.2; omega)).mono (fun y hy => hy.1)
      have hne1 : W.heap.size ≠ w.heap.size := by omega
      have hne2 : w.heap.size ≠ W.heap.size := by omega
      have rW := rl
      go_wp2_with (go_at_call 82; refine (HMK.out _ ((Only.refl [] W).alloc _) (by simp)).mono ?_; rintro e w2 ⟨Aq, cq, rfl, M2, O2⟩; have B1 := HX.out.only O2 (by simp); have B0 := (HB.out.alloc _).only O2 (by simp); have O1 := (HO.out.then HOV.out).then O2; clear c0 c1 c2 c3 hgl r0 r1 r2 r3 rf0 rf1 rf2 rf3 rl; obtain ⟨r0, r1, r2, r3⟩ := bk_four B0; have rf0 := B0.free 0; have rf1 := B0.free 1; have rf2 := B0.free 2; have rf3 := B0.free 3; have rl := B0.lt; obtain ⟨d0, d1, d2, d3⟩ := bk_four B1; have df0 := B1.free 0; have df1 := B1.free 1; have df2 := B1.free 2; have df3 := B1.free 3; have dl := B1.lt)
      obtain ⟨w3, hw3, B3, O3, M3⟩ := HMEM.out w2 Aq cq M2 O1 dl B0
      subst hw3
      refine bx_ret1 (s := 6) (u := 7) (by kernel_rfl) w.heap.size (.string (St b.name)) (.int .i64 b.val) (.int .i64 b.next) (.slice Aq b.l.length cq) (.bool true) rfl rfl ?_ ?_
      · exact B3
      · exact ⟨O3, .inr ⟨b, _, _, HE.out, HG.out, rfl, M3⟩⟩
end
end Go.Proofs.YtgnilldcfpgpaaaGreatDoor
namespace Go.Proofs.YtgnilldcfpgpaaaGreatDoor
open Go.RowKit Go.Maps
def tupE (E : Int) (m : Option Nat) : Value := .tuple #[.agg #[.int .i64 0, .map m], .int .i64 0, .int .i64 E]
def KnT (_ : Nat → Prop) (_ : World) (_ : Option Nat) : Prop := True
theorem knT : KnOk KnT := ⟨fun _ _ _ => trivial, fun _ _ => trivial⟩
section
variable {w : World} {g d lg : Nat} {img log : ByteArray} {F G : List Nat} {D : Dst} {L : LS} {S : Stt} {mu : Option Nat}
set_option maxRecDepth 100000 in
set_option maxHeartbeats 4000000 in
theorem Do_refused (h : StoreIs w g d lg img log F G D L S mu false) (ch : Ch) {Au Ab : Option Addr} {cu cb : Nat} (hsz : ch.user.length ≤ 12 ∧ ch.box.length ≤ 12) (hci : ChIn w ch Au Ab) (hk8 : ch.kind = 1 ∨ ch.kind = 2 ∨ ch.kind = 3 ∨ ch.kind = 4 ∨ ch.kind = 5 ∨ ch.kind = 6 ∨ ch.kind = 7 ∨ ch.kind = 8)
    (hT : TabN w) (hpos : 0 < w.heap.size) (hok : isC ch = true) (he : doE S ch ≠ 0) :
    Calls Tryz.prog 15 #[.pointer (some ⟨g, 0, none⟩), chv ch Au cu Ab cb] w fun e w' => e = .returned (.tuple #[.int .i64 0, .int .i64 (doE S ch)]) ∧ Only [] w w' := by
  have hB := Bk.new w 29 #[.int .i64 ch.kind, .string (St ch.user), .string (St ch.pass), .string (St ch.box), .string (St ch.to), .slice Au ch.uids.length cu, .int .i64 ch.mode, .int .i64 ch.flags, .int .i64 ch.date, .slice Ab ch.body.length cb]
  have oW : Only [] w (w.alloc (.cells #[.int .i64 ch.kind, .string (St ch.user), .string (St ch.pass), .string (St ch.box), .string (St ch.to), .slice Au ch.uids.length cu, .int .i64 ch.mode, .int .i64 ch.flags, .int .i64 ch.date, .slice Ab ch.body.length cb] 29)) := (Only.refl [] w).alloc _
  have HH := Lib.hid h
  have HEN := Lib.hid (EncodeC_any ch (A := Au) (B := Ab) (ca := cu) (cb := cb) (hci.uids.keep oW) (hci.body.keep oW) hci.many (hT.keep oW) (Nat.lt_of_lt_of_le hpos oW.size))
  replace HEN : Hid (Calls Tryz.prog 26 #[chv ch Au cu Ab cb] (w.alloc (.cells #[.int .i64 ch.kind, .string (St ch.user), .string (St ch.pass), .string (St ch.box), .string (St ch.to), .slice Au ch.uids.length cu, .int .i64 ch.mode, .int .i64 ch.flags, .int .i64 ch.date, .slice Ab ch.body.length cb] 29)) fun e w' => ∃ A' c', e = .returned (.tuple #[.slice A' (encC ch).length c', .int .i64 0]) ∧ Own w' 5 A' (encC ch).length c' (bvs (encC ch)) ∧ Only [] (w.alloc (.cells #[.int .i64 ch.kind, .string (St ch.user), .string (St ch.pass), .string (St ch.box), .string (St ch.to), .slice Au ch.uids.length cu, .int .i64 ch.mode, .int .i64 ch.flags, .int .i64 ch.date, .slice Ab ch.body.length cb] 29)) w' ∧ ∀ k ∈ blks A', (w.alloc (.cells #[.int .i64 ch.kind, .string (St ch.user), .string (St ch.pass), .string (St ch.box), .string (St ch.to), .slice Au ch.uids.length cu, .int .i64 ch.mode, .int .i64 ch.flags, .int .i64 ch.date, .slice Ab ch.body.length cb] 29)).heap.size ≤ k) := by
    refine HEN.out.mono ?_
    rintro e w' (⟨_, A1, c1, rfl, h1, h2, h3⟩ | ⟨h, _⟩)
    · exact ⟨A1, c1, rfl, h1, h2, h3⟩
    · exact absurd (hok.symm.trans h) (by decide)
  unfold chv at HEN
  obtain ⟨Er, hEr⟩ : ∃ x : Int, doE S ch = x := ⟨_, rfl⟩
  have HAF : Hid (∀ (K : Nat → Prop) (V : World), SIn K V mu S → ChIn V ch Au Ab → Calls Tryz.prog 42 #[.agg #[.int .i64 S.next, .map mu], .agg #[.int .i64 ch.kind, .string (St ch.user), .string (St ch.pass), .string (St ch.box), .string (St ch.to), .slice Au ch.uids.length cu, .int .i64 ch.mode, .int .i64 ch.flags, .int .i64 ch.date, .slice Ab ch.body.length cb]] V fun e w' => ∃ m, e = .returned (tupE Er m) ∧ KnT K w' m ∧ Only [] V w') := by
    intro K V hi hc
    refine Calls.mono (after_any S hi ch (cu := cu) (cb := cb) hsz hc hk8) ?_
    rw [← hEr]
    rintro e w' (⟨_, rfl, o⟩ | ⟨h, _⟩)
    · exact ⟨none, rfl, trivial, o⟩
    · exact absurd h he
  rw [hEr] at he ⊢
  have hEb : (Er != 0) = true := by simpa using he
  have HEB := Lib.hid hEb
  have HCI := Lib.hid hci
  unfold chv
  obtain ⟨c0, c1, c2, c3⟩ := bk_four (h.bk.only oW (by simp))
  have hgl := (h.bk.only oW (by simp)).lt
  obtain ⟨k0, k1, k2, k3, k4, k5, k6, k7, k8, k9⟩ := bk_ten hB
  have kl := hB.lt
  have HB := Lib.hid hB
  have HOW := Lib.hid oW
  clear h hsz hci hk8 hT hpos hok he hEr hEb hB oW
  go_enter Tryz.func15, Tryz.ntmps15
  go_upto_region 8 with (go_at_call 26; go_must (refine HEN.out.mono ?_); rintro e w1 ⟨A1, cap1, rfl, V1, O1, B1⟩; clear HEN; have HC1 := HH.out.bk.only (HOW.out.then O1) (by simp); clear c0 c1 c2 c3 hgl; obtain ⟨c0, c1, c2, c3⟩ := bk_four HC1; have hgl := HC1.lt; have HK1 := HB.out.only O1 (by simp); clear k0 k1 k2 k3 k4 k5 k6 k7 k8 k9 kl; obtain ⟨k0, k1, k2, k3, k4, k5, k6, k7, k8, k9⟩ := bk_ten HK1; have kl := HK1.lt)
  have HC1' := Lib.hid HC1
  have HK1' := Lib.hid HK1
  have HO1 : Hid (Only [] w w1) := HOW.out.then O1
  have HV1 := Lib.hid V1
  have HB1 : Hid (∀ k ∈ blks A1, w.heap.size ≤ k) := fun k hk => Nat.le_trans HOW.out.size (B1 k hk)
  have HFR : Hid (∀ y, w1.heap.size ≤ y → StK F G g y) := fun y hy => by
    have := HO1.out.size
    refine ⟨fun h => ?_, fun h => ?_, fun h => ?_⟩
    · have := HH.out.dk.lt h; omega
    · have := HH.out.lgr.lt h; omega
    · have := HH.out.bk.lt; omega
  have HSI : Hid (∀ (K : Nat → Prop) (V : World), Only [] w1 V → (∀ y, V.heap.size ≤ y → K y) → (∀ y, y < w1.heap.size → StK F G g y → K y) → SIn K V mu S) := fun K V o hk hs => ⟨((HH.out.st.keep HO1.out).mono hs).keep o, hk, HH.out.good⟩
  have HCV : Hid (∀ V, Only [] w1 V → ChIn V ch Au Ab) := fun V o => ⟨HCI.out.uids.keep (HO1.out.then o), HCI.out.body.keep (HO1.out.then o), HCI.out.many, HCI.out.to⟩
  clear HC1 HK1 O1 V1 B1 c0 c1 c2 c3 hgl k0 k1 k2 k3 k4 k5 k6 k7 k8 k9 kl
  apply region_inv (CallG w1 (StK F G g) KnT (tupE Er) (boxS 0) (csS 0) 91 #[.int .i64 0, .map none] 5 6 7 10 11) (by kernel_rfl) (by kernel_rfl) (fun vs => CallG.start vs)
  intro vs
  apply inv_val
  case hw => rfl
  case hI => intro L wS hI; exact hI.pure (by decide)
  case hy => intro L wS hI; skip; first | (go_simp; done) | (go_simp; with_reducible rfl)
  case' hk => skip
  try simp only [Act.put, List.setIfInBounds_toArray, List.set_cons_zero, List.set_cons_succ]
  apply inv_val
  case hw => rfl
  case hI => intro L wS hI; exact hI.pure (by decide)
  case hy => intro L wS hI; skip; first | (go_simp; done) | (go_simp; with_reducible rfl)
  case' hk => skip
  try simp only [Act.put, List.setIfInBounds_toArray, List.set_cons_zero, List.set_cons_succ]
  apply inv_val
  case hw => rfl
  case hI => intro L wS hI; exact hI.pure (by decide)
  case hy => intro L wS hI; skip; first | (go_simp; done) | (go_simp; with_reducible rfl)
  case' hk => skip
  try simp only [Act.put, List.setIfInBounds_toArray, List.set_cons_zero, List.set_cons_succ]
  apply inv_val
  case hw => rfl
  case hI => intro L wS hI; exact hI.pure (by decide)
  case hy => intro L wS hI; have q0 := hI.1.cellSome (HC1'.out.cell 1) (by simp); have q1 := hI.1.cellSome (HC1'.out.cell 2) (by simp); first | (go_simp; done) | (go_simp; with_reducible rfl)
  case' hk => skip
  try simp only [Act.put, List.setIfInBounds_toArray, List.set_cons_zero, List.set_cons_succ]
  apply inv_val
  case hw => rfl
  case hI => intro L wS hI; exact hI.pure (by decide)
  case hy => intro L wS hI; have q0 := hI.1.cellSome (HK1'.out.cell 0) (by simp); have q1 := hI.1.cellSome (HK1'.out.cell 1) (by simp); have q2 := hI.1.cellSome (HK1'.out.cell 2) (by simp); have q3 := hI.1.cellSome (HK1'.out.cell 3) (by simp); have q4 := hI.1.cellSome (HK1'.out.cell 4) (by simp); have q5 := hI.1.cellSome (HK1'.out.cell 5) (by simp); have q6 := hI.1.cellSome (HK1'.out.cell 6) (by simp); have q7 := hI.1.cellSome (HK1'.out.cell 7) (by simp); have q8 := hI.1.cellSome (HK1'.out.cell 8) (by simp); have q9 := hI.1.cellSome (HK1'.out.cell 9) (by simp); first | (go_simp; done) | (go_simp; with_reducible rfl)
  case' hk => skip
  try simp only [Act.put, List.setIfInBounds_toArray, List.set_cons_zero, List.set_cons_succ]
  apply inv_op
  case hw => rfl
  case hy =>
    intro L wS hI hL hw
    refine gives_call (f := 42) (args := #[.agg #[.int .i64 S.next, .map mu], .agg #[.int .i64 ch.kind, .string (St ch.user), .string (St ch.pass), .string (St ch.box), .string (St ch.to), .slice Au ch.uids.length cu, .int .i64 ch.mode, .int .i64 ch.flags, .int .i64 ch.date, .slice Ab ch.body.length cb]]) ?_ ?_
    · first | (go_simp; done) | (go_simp; with_reducible rfl)
    · exact (HAF.out (CallG.cls (StK F G g) 10 L vs) wS (HSI.out _ wS hI.1 (hI.fresh HFR.out) (fun y hy hs => hI.old hy hs)) (HCV.out wS hI.1)).mono fun e w' he => by
        obtain ⟨xw, e1, e2, e3⟩ := he
        exact ⟨_, e1, hI.call knT xw hL (by decide) e2 e3, trivial⟩
  case' hk => skip
  try simp only [Act.put, List.setIfInBounds_toArray, List.set_cons_zero, List.set_cons_succ]
  apply inv_op
  case hw => rfl
  case hy =>
    intro L wS hI hL hw
    obtain ⟨xw, e, h⟩ := hI.move (hw 5 (by kernel_rfl)) (by decide)
    refine gives_value (u := tupE Er xw) (w' := wS) ?_ h trivial
    rw [e]
    unfold tupE
    first | (go_simp; done) | (go_simp; with_reducible rfl)
  case' hk => skip
  try simp only [Act.put, List.setIfInBounds_toArray, List.set_cons_zero, List.set_cons_succ]
  apply inv_op
  case hw => rfl
  case hy =>
    intro L wS hI hL hw
    obtain ⟨xw, e, h⟩ := hI.part (hw 6 (by kernel_rfl)) (by decide)
    refine gives_value (u := boxS 0 xw) (w' := wS) ?_ h trivial
    rw [e]
    unfold tupE boxS
    first | (go_simp; done) | (go_simp; with_reducible rfl)
  case' hk => skip
  try simp only [Act.put, List.setIfInBounds_toArray, List.set_cons_zero, List.set_cons_succ]
  apply inv_valw (v := .int .i64 0)
  case hw => rfl
  case hI => intro L wS hI; exact hI.pure (by decide)
  case hy =>
    intro L wS hI hw
    obtain ⟨xw, e⟩ := hI.see (hw 6 (by kernel_rfl))
    rw [e]
    unfold tupE
    first | (go_simp; done) | (go_simp; with_reducible rfl)
  case' hk => skip
  try simp only [Act.put, List.setIfInBounds_toArray, List.set_cons_zero, List.set_cons_succ]
  apply inv_valw (v := .int .i64 Er)
  case hw => rfl
  case hI => intro L wS hI; exact hI.pure (by decide)
  case hy =>
    intro L wS hI hw
    obtain ⟨xw, e⟩ := hI.see (hw 6 (by kernel_rfl))
    rw [e]
    unfold tupE
    first | (go_simp; done) | (go_simp; with_reducible rfl)
  case' hk => skip
  try simp only [Act.put, List.setIfInBounds_toArray, List.set_cons_zero, List.set_cons_succ]
  apply inv_op
  case hw => rfl
  case hy =>
    intro L wS hI hL hw
    refine gives_value (u := ptr2 wS.heap.size) (w' := wS.alloc (.cells #[.int .i64 0, .map none] 91)) ?_ (hI.alloc knT hL (by decide)) trivial
    show _ = Result.ok (Next.value (.pointer (some ⟨wS.heap.size, 0, none⟩))) (wS.alloc (.cells #[.int .i64 0, .map none] 91))
    first | (go_simp; done) | (go_simp; with_reducible rfl)
  case' hk => skip
  try simp only [Act.put, List.setIfInBounds_toArray, List.set_cons_zero, List.set_cons_succ]
  apply inv_op
  case hw => rfl
  case hy =>
    intro L wS hI hL hw
    obtain ⟨gn, xw, e4, e3, hb, hst⟩ := hI.store knT hL (hw 10 (by kernel_rfl)) (hw 7 (by kernel_rfl)) (by decide)
    obtain ⟨p0, p1⟩ := bk_two hb
    have fz0 := hb.free 0
    have fz1 := hb.free 1
    have hg := hb.lt
    rw [e4, e3]
    refine gives_skip ?_ (hst _ _ (only_store2 (Only.refl [gn] wS) (.inl List.mem_cons_self) (.int .i64 0) (.map xw)) (bk_store2 hb _ _)) trivial
    unfold ptr2 boxS
    go_simp
  case' hk => skip
  try simp only [Act.put]
  apply inv_val
  case hw => rfl
  case hI => intro L wS hI; exact hI.pure (by decide)
  case hy => intro L wS hI; skip; first | (go_simp; done) | (go_simp; with_reducible rfl)
  case' hk => skip
  try simp only [Act.put, List.setIfInBounds_toArray, List.set_cons_zero, List.set_cons_succ]
  apply inv_val
  case hw => rfl
  case hI => intro L wS hI; exact hI.pure (by decide)
  case hy => intro L wS hI; skip; first | (go_simp; done) | (go_simp; with_reducible rfl)
  case' hk => skip
  try simp only [Act.put, List.setIfInBounds_toArray, List.set_cons_zero, List.set_cons_succ]
  refine inv_end ?_
  intro L9 w2 hall hI
  obtain ⟨mu3, p8, e1, e2, e3, e4, hp8, N2, K2, O2⟩ := hI.end_ knT ⟨hall 5 (by decide), hall 6 (by decide), hall 7 (by decide), hall 10 (by decide), hall 11 (by decide)⟩
  rw [e1, e2, e3, e4]
  clear e1 e2 e3 e4 hall hI
  unfold ptr2 tupE boxS
  have hEb := HEB.out
  have HQ2 : Hid (Only [] w w2) := HO1.out.then O2
  clear hp8 K2 O2 N2 HFR HSI HCV
  go_wp2
  go_ret2
  exact ⟨rfl, HQ2.out⟩
end
end Go.Proofs.YtgnilldcfpgpaaaGreatDoor
namespace Go.Proofs.YtgnilldcfpgpaaaGreatDoor
open Go.RowKit Go.Maps
structure Calm (D : Dst) (log : ByteArray) (L : LS) (k : Nat) : Prop where
  room : D.room = 268435456
  fuse : D.fuse = none
  fs : (D.fs = [] ∧ k = 0) ∨ ∃ data lasts, D.fs = [⟨log, data, lasts⟩] ∧ data.length ≤ k * 70000
  dead : L.dead = false
  base : L.base = 0
  es : L.es.length = k
theorem calm_0 : Calm D0 (logName mailN) L0 0 := ⟨rfl, rfl, .inl ⟨rfl, rfl⟩, rfl, rfl, rfl⟩
theorem log_ok : okName (logName mailN) = true := by kernel_rfl
theorem calm_step {D : Dst} {log : ByteArray} {L : LS} {k : Nat} (h : Calm D log L k) (hlog : okName log = true) (hk : k ≤ 1000) (p : List UInt8) (hp : p.length ≤ 65536) : appE D log L p = 0 ∧ Calm (appS D log L p) log (appL D log L p) (k + 1) := by
  obtain ⟨h1, h2, h3, h4, h5, h6⟩ := h
  have hlast : L.last = k := by unfold LS.last; omega
  have hr1 := numd_len (k := k + 1) (p := p) (by omega) (by omega)
  have hr : (record (numd (k + 1) p)).length ≤ 70000 := by rw [record_len]; omega
  have hbig : ¬ (65536 < p.length ∨ 1099511627776 < L.last + 1) := by omega
  have hE : appE D log L p = layE D log (record (numd (k + 1) p)) := by unfold appE; rw [h4, if_neg hbig, hlast]; rfl
  have hS : appS D log L p = layS D log (record (numd (k + 1) p)) := by unfold appS; rw [h4, if_neg hbig, hlast]; rfl
  have hL : appL D log L p = if layE D log (record (numd (k + 1) p)) = 0 then { L with es := L.es ++ [p] } else { L with dead := true } := by unfold appL; rw [h4, if_neg hbig, hlast]; rfl
  rw [hE, hS, hL]
  generalize record (numd (k + 1) p) = r at hr
  have hB : errB D [log] = 0 := by unfold errB; rw [h2]; simp [hlog]
  rcases h3 with ⟨hf, hk0⟩ | ⟨data, lasts, hf, hd⟩
  · have hA : errA D log r = 0 := by
      unfold errA
      rw [hB, h1, hf]
      simp [used]
      omega
    have hS1 : appendS D log r = ⟨268435456, [⟨log, r, 0⟩], none⟩ := by
      unfold appendS doA tick
      rw [if_pos hA, hf]
      simp [get, ins, h1, h2]
    have hB2 : errB (⟨268435456, [⟨log, r, 0⟩], none⟩ : Dst) [log] = 0 := by unfold errB; simp [hlog]
    have hF : errF (⟨268435456, [⟨log, r, 0⟩], none⟩ : Dst) log = 0 := by
      unfold errF
      rw [hB2]
      simp [get]
    have hLE : layE D log r = 0 := by unfold layE; rw [if_pos hA, hS1, hF]
    have hLS : layS D log r = ⟨268435456, [⟨log, r, r.length⟩], none⟩ := by
      unfold layS
      rw [if_pos hA, hS1]
      unfold syncS tick upd synced
      rw [if_pos hF]
      simp
    rw [hLE, hLS, if_pos rfl]
    exact ⟨rfl, rfl, rfl, .inr ⟨r, r.length, rfl, by omega⟩, h4, h5, by simp [h6]⟩
  · have hA : errA D log r = 0 := by
      unfold errA
      rw [hB, h1, hf]
      simp [used, get]
      omega
    have hS1 : appendS D log r = ⟨268435456, [⟨log, data ++ r, lasts⟩], none⟩ := by
      unfold appendS doA tick
      rw [if_pos hA, hf]
      simp [get, upd, h1, h2]
    have hB2 : errB (⟨268435456, [⟨log, data ++ r, lasts⟩], none⟩ : Dst) [log] = 0 := by unfold errB; simp [hlog]
    have hF : errF (⟨268435456, [⟨log, data ++ r, lasts⟩], none⟩ : Dst) log = 0 := by
      unfold errF
      rw [hB2]
      simp [get]
    have hLE : layE D log r = 0 := by unfold layE; rw [if_pos hA, hS1, hF]
    have hLS : layS D log r = ⟨268435456, [⟨log, data ++ r, (data ++ r).length⟩], none⟩ := by
      unfold layS
      rw [if_pos hA, hS1]
      unfold syncS tick upd synced
      rw [if_pos hF]
      simp
    rw [hLE, hLS, if_pos rfl]
    refine ⟨rfl, rfl, rfl, .inr ⟨data ++ r, (data ++ r).length, rfl, ?_⟩, h4, h5, by simp [h6]⟩
    rw [List.length_append]
    omega
end Go.Proofs.YtgnilldcfpgpaaaGreatDoor
namespace Go.Proofs.YtgnilldcfpgpaaaGreatDoor
open Go.RowKit Go.Maps
def DoRP (P : Nat → Prop) (w : World) (g d lg : Nat) (img log : ByteArray) (F G : List Nat) (D' : Dst) (L' : LS) (S' : Stt) (N : Int) (e : Ending) (w' : World) : Prop :=
  e = .returned (.tuple #[.int .i64 N, .int .i64 0]) ∧ ∃ F' G' mu', StoreIs w' g d lg img log F' G' D' L' S' mu' false ∧ Only (g :: (F ++ G)) w w' ∧ (∀ x ∈ F', x ∈ F ∨ w.heap.size ≤ x) ∧ (∀ x ∈ G', x ∈ G ∨ w.heap.size ≤ x) ∧ StIs (fun y => StK F' G' g y ∧ P y) w' mu' S'
section
variable {w : World} {g d lg : Nat} {img log : ByteArray} {F G : List Nat} {D : Dst} {L : LS} {S : Stt} {mu : Option Nat}
set_option maxRecDepth 100000 in
set_option maxHeartbeats 4000000 in
theorem Do_okP {P : Nat → Prop} (hP : ∀ y, w.heap.size ≤ y → P y) (hst : StIs (fun y => StK F G g y ∧ P y) w mu S) (h : StoreIs w g d lg img log F G D L S mu false) (ch : Ch) {Au Ab : Option Addr} {cu cb : Nat} (hsz : ch.user.length ≤ 12 ∧ ch.box.length ≤ 12) (hci : ChIn w ch Au Ab) (hk8 : ch.kind = 1 ∨ ch.kind = 2 ∨ ch.kind = 3 ∨ ch.kind = 4 ∨ ch.kind = 5 ∨ ch.kind = 6 ∨ ch.kind = 7 ∨ ch.kind = 8)
    (hT : TabN w) (hpos : 0 < w.heap.size) (ht : Tab w) (hok : isC ch = true) (he : doE S ch = 0) (ha : appE D log L (encC ch) = 0) (hfew : (appL D log L (encC ch)).es.length < 20) (hgd : GoodS (doS S ch)) :
    Calls Tryz.prog 15 #[.pointer (some ⟨g, 0, none⟩), chv ch Au cu Ab cb] w (DoRP P w g d lg img log F G (appS D log L (encC ch)) (appL D log L (encC ch)) (doS S ch) (doN S ch)) := by
  have hB := Bk.new w 29 #[.int .i64 ch.kind, .string (St ch.user), .string (St ch.pass), .string (St ch.box), .string (St ch.to), .slice Au ch.uids.length cu, .int .i64 ch.mode, .int .i64 ch.flags, .int .i64 ch.date, .slice Ab ch.body.length cb]
  have oW : Only [] w (w.alloc (.cells #[.int .i64 ch.kind, .string (St ch.user), .string (St ch.pass), .string (St ch.box), .string (St ch.to), .slice Au ch.uids.length cu, .int .i64 ch.mode, .int .i64 ch.flags, .int .i64 ch.date, .slice Ab ch.body.length cb] 29)) := (Only.refl [] w).alloc _
  have HH := Lib.hid h
  have HP := Lib.hid hP
  have HST0 := Lib.hid hst
  have HEN := Lib.hid (EncodeC_any ch (A := Au) (B := Ab) (ca := cu) (cb := cb) (hci.uids.keep oW) (hci.body.keep oW) hci.many (hT.keep oW) (Nat.lt_of_lt_of_le hpos oW.size))
  replace HEN : Hid (Calls Tryz.prog 26 #[chv ch Au cu Ab cb] (w.alloc (.cells #[.int .i64 ch.kind, .string (St ch.user), .string (St ch.pass), .string (St ch.box), .string (St ch.to), .slice Au ch.uids.length cu, .int .i64 ch.mode, .int .i64 ch.flags, .int .i64 ch.date, .slice Ab ch.body.length cb] 29)) fun e w' => ∃ A' c', e = .returned (.tuple #[.slice A' (encC ch).length c', .int .i64 0]) ∧ Own w' 5 A' (encC ch).length c' (bvs (encC ch)) ∧ Only [] (w.alloc (.cells #[.int .i64 ch.kind, .string (St ch.user), .string (St ch.pass), .string (St ch.box), .string (St ch.to), .slice Au ch.uids.length cu, .int .i64 ch.mode, .int .i64 ch.flags, .int .i64 ch.date, .slice Ab ch.body.length cb] 29)) w' ∧ ∀ k ∈ blks A', (w.alloc (.cells #[.int .i64 ch.kind, .string (St ch.user), .string (St ch.pass), .string (St ch.box), .string (St ch.to), .slice Au ch.uids.length cu, .int .i64 ch.mode, .int .i64 ch.flags, .int .i64 ch.date, .slice Ab ch.body.length cb] 29)).heap.size ≤ k) := by
    refine HEN.out.mono ?_
    rintro e w' (⟨_, A1, c1, rfl, h1, h2, h3⟩ | ⟨h, _⟩)
    · exact ⟨A1, c1, rfl, h1, h2, h3⟩
    · exact absurd (hok.symm.trans h) (by decide)
  unfold chv at HEN
  obtain ⟨Nr, hNr⟩ : ∃ x : Int, doN S ch = x := ⟨_, rfl⟩
  obtain ⟨Sr, hSr⟩ : ∃ x : Stt, doS S ch = x := ⟨_, rfl⟩
  have HAF : Hid (∀ (K : Nat → Prop) (V : World), SIn K V mu S → ChIn V ch Au Ab → Calls Tryz.prog 42 #[.agg #[.int .i64 S.next, .map mu], .agg #[.int .i64 ch.kind, .string (St ch.user), .string (St ch.pass), .string (St ch.box), .string (St ch.to), .slice Au ch.uids.length cu, .int .i64 ch.mode, .int .i64 ch.flags, .int .i64 ch.date, .slice Ab ch.body.length cb]] V fun e w' => ∃ m, e = .returned (tupS Sr.next Nr m) ∧ KnS Sr K w' m ∧ Only [] V w') := by
    intro K V hi hc
    refine Calls.mono (after_any S hi ch (cu := cu) (cb := cb) hsz hc hk8) ?_
    rw [he, hNr, hSr]
    rintro e w' (⟨h, _⟩ | ⟨_, m, rfl, h2, h3⟩)
    · exact absurd rfl h
    · exact ⟨m, rfl, h2, h3⟩
  rw [hNr, hSr]
  rw [hSr] at hgd
  have HGD := Lib.hid hgd
  have HCI := Lib.hid hci
  have HT := Lib.hid ht
  have HAP := Lib.hid (fun (V : World) (F' G' : List Nat) (hD : Disk V d F' D) (hL : Lg V d lg img log G' L) (hFG : ∀ x ∈ F', x ∉ G') (A : Option Addr) (c : Nat) (hs : Sl V A (encC ch).length (bvs (encC ch))) (hp : 0 < (encC ch).length → ∀ ad, A = some ad → ad.block ∉ F') (t : Tab V) => lappend_any hD hL hFG A (encC ch).length c (encC ch) hs hp t)
  rw [ha] at HAP
  rw [show ((0 : Nat) : Int) = 0 from rfl] at HAP
  have HOK := Lib.hid hok
  have HFE := Lib.hid hfew
  have HNN : Hid (∃ k : Nat, appN D log L (encC ch) = k) := ⟨_, rfl⟩
  unfold chv
  obtain ⟨c0, c1, c2, c3⟩ := bk_four (h.bk.only oW (by simp))
  have hgl := (h.bk.only oW (by simp)).lt
  obtain ⟨k0, k1, k2, k3, k4, k5, k6, k7, k8, k9⟩ := bk_ten hB
  have kl := hB.lt
  have HB := Lib.hid hB
  have HOW := Lib.hid oW
  clear hP hst h hsz hci hk8 hT hpos ht hok he ha hfew hgd hNr hSr hB oW
  go_enter Tryz.func15, Tryz.ntmps15
  go_upto_region 8 with (go_at_call 26; go_must (refine HEN.out.mono ?_); rintro e w1 ⟨A1, cap1, rfl, V1, O1, B1⟩; clear HEN; have HC1 := HH.out.bk.only (HOW.out.then O1) (by simp); clear c0 c1 c2 c3 hgl; obtain ⟨c0, c1, c2, c3⟩ := bk_four HC1; have hgl := HC1.lt; have HK1 := HB.out.only O1 (by simp); clear k0 k1 k2 k3 k4 k5 k6 k7 k8 k9 kl; obtain ⟨k0, k1, k2, k3, k4, k5, k6, k7, k8, k9⟩ := bk_ten HK1; have kl := HK1.lt)
  have HC1' := Lib.hid HC1
  have HK1' := Lib.hid HK1
  have HO1 : Hid (Only [] w w1) := HOW.out.then O1
  have HV1 := Lib.hid V1
  have HB1 : Hid (∀ k ∈ blks A1, w.heap.size ≤ k) := fun k hk => Nat.le_trans HOW.out.size (B1 k hk)
  have HFR : Hid (∀ y, w1.heap.size ≤ y → StK F G g y ∧ P y) := fun y hy => by
    have := HO1.out.size
    refine ⟨⟨fun h => ?_, fun h => ?_, fun h => ?_⟩, HP.out y (by omega)⟩
    · have := HH.out.dk.lt h; omega
    · have := HH.out.lgr.lt h; omega
    · have := HH.out.bk.lt; omega
  have HSI : Hid (∀ (K : Nat → Prop) (V : World), Only [] w1 V → (∀ y, V.heap.size ≤ y → K y) → (∀ y, y < w1.heap.size → (StK F G g y ∧ P y) → K y) → SIn K V mu S) := fun K V o hk hs => ⟨((HST0.out.keep HO1.out).mono hs).keep o, hk, HH.out.good⟩
  have HCV : Hid (∀ V, Only [] w1 V → ChIn V ch Au Ab) := fun V o => ⟨HCI.out.uids.keep (HO1.out.then o), HCI.out.body.keep (HO1.out.then o), HCI.out.many, HCI.out.to⟩
  clear HC1 HK1 O1 V1 B1 c0 c1 c2 c3 hgl k0 k1 k2 k3 k4 k5 k6 k7 k8 k9 kl
  apply region_inv (CallG w1 (fun y => StK F G g y ∧ P y) (KnS Sr) (tupS Sr.next Nr) (boxS Sr.next) (csS Sr.next) 91 #[.int .i64 0, .map none] 5 6 7 10 11) (by kernel_rfl) (by kernel_rfl) (fun vs => CallG.start vs)
  intro vs
  apply inv_val
  case hw => rfl
  case hI => intro L wS hI; exact hI.pure (by decide)
  case hy => intro L wS hI; skip; first | (go_simp; done) | (go_simp; with_reducible rfl)
  case' hk => skip
  try simp only [Act.put, List.setIfInBounds_toArray, List.set_cons_zero, List.set_cons_succ]
  apply inv_val
  case hw => rfl
  case hI => intro L wS hI; exact hI.pure (by decide)
  case hy => intro L wS hI; skip; first | (go_simp; done) | (go_simp; with_reducible rfl)
  case' hk => skip
  try simp only [Act.put, List.setIfInBounds_toArray, List.set_cons_zero, List.set_cons_succ]
  apply inv_val
  case hw => rfl
  case hI => intro L wS hI; exact hI.pure (by decide)
  case hy => intro L wS hI; skip; first | (go_simp; done) | (go_simp; with_reducible rfl)
  case' hk => skip
  try simp only [Act.put, List.setIfInBounds_toArray, List.set_cons_zero, List.set_cons_succ]
  apply inv_val
  case hw => rfl
  case hI => intro L wS hI; exact hI.pure (by decide)
  case hy => intro L wS hI; have q0 := hI.1.cellSome (HC1'.out.cell 1) (by simp); have q1 := hI.1.cellSome (HC1'.out.cell 2) (by simp); first | (go_simp; done) | (go_simp; with_reducible rfl)
  case' hk => skip
  try simp only [Act.put, List.setIfInBounds_toArray, List.set_cons_zero, List.set_cons_succ]
  apply inv_val
  case hw => rfl
  case hI => intro L wS hI; exact hI.pure (by decide)
  case hy => intro L wS hI; have q0 := hI.1.cellSome (HK1'.out.cell 0) (by simp); have q1 := hI.1.cellSome (HK1'.out.cell 1) (by simp); have q2 := hI.1.cellSome (HK1'.out.cell 2) (by simp); have q3 := hI.1.cellSome (HK1'.out.cell 3) (by simp); have q4 := hI.1.cellSome (HK1'.out.cell 4) (by simp); have q5 := hI.1.cellSome (HK1'.out.cell 5) (by simp); have q6 := hI.1.cellSome (HK1'.out.cell 6) (by simp); have q7 := hI.1.cellSome (HK1'.out.cell 7) (by simp); have q8 := hI.1.cellSome (HK1'.out.cell 8) (by simp); have q9 := hI.1.cellSome (HK1'.out.cell 9) (by simp); first | (go_simp; done) | (go_simp; with_reducible rfl)
  case' hk => skip
  try simp only [Act.put, List.setIfInBounds_toArray, List.set_cons_zero, List.set_cons_succ]
  apply inv_op
  case hw => rfl
  case hy =>
    intro L wS hI hL hw
    refine gives_call (f := 42) (args := #[.agg #[.int .i64 S.next, .map mu], .agg #[.int .i64 ch.kind, .string (St ch.user), .string (St ch.pass), .string (St ch.box), .string (St ch.to), .slice Au ch.uids.length cu, .int .i64 ch.mode, .int .i64 ch.flags, .int .i64 ch.date, .slice Ab ch.body.length cb]]) ?_ ?_
    · first | (go_simp; done) | (go_simp; with_reducible rfl)
    · exact (HAF.out (CallG.cls (fun y => StK F G g y ∧ P y) 10 L vs) wS (HSI.out _ wS hI.1 (hI.fresh HFR.out) (fun y hy hs => hI.old hy hs)) (HCV.out wS hI.1)).mono fun e w' he => by
        obtain ⟨xw, e1, e2, e3⟩ := he
        exact ⟨_, e1, hI.call (knS Sr) xw hL (by decide) e2 e3, trivial⟩
  case' hk => skip
  try simp only [Act.put, List.setIfInBounds_toArray, List.set_cons_zero, List.set_cons_succ]
  apply inv_op
  case hw => rfl
  case hy =>
    intro L wS hI hL hw
    obtain ⟨xw, e, h⟩ := hI.move (hw 5 (by kernel_rfl)) (by decide)
    refine gives_value (u := tupS Sr.next Nr xw) (w' := wS) ?_ h trivial
    rw [e]
    unfold tupS
    first | (go_simp; done) | (go_simp; with_reducible rfl)
  case' hk => skip
  try simp only [Act.put, List.setIfInBounds_toArray, List.set_cons_zero, List.set_cons_succ]
  apply inv_op
  case hw => rfl
  case hy =>
    intro L wS hI hL hw
    obtain ⟨xw, e, h⟩ := hI.part (hw 6 (by kernel_rfl)) (by decide)
    refine gives_value (u := boxS Sr.next xw) (w' := wS) ?_ h trivial
    rw [e]
    unfold tupS boxS
    first | (go_simp; done) | (go_simp; with_reducible rfl)
  case' hk => skip
  try simp only [Act.put, List.setIfInBounds_toArray, List.set_cons_zero, List.set_cons_succ]
  apply inv_valw (v := .int .i64 Nr)
  case hw => rfl
  case hI => intro L wS hI; exact hI.pure (by decide)
  case hy =>
    intro L wS hI hw
    obtain ⟨xw, e⟩ := hI.see (hw 6 (by kernel_rfl))
    rw [e]
    unfold tupS
    first | (go_simp; done) | (go_simp; with_reducible rfl)
  case' hk => skip
  try simp only [Act.put, List.setIfInBounds_toArray, List.set_cons_zero, List.set_cons_succ]
  apply inv_valw (v := .int .i64 0)
  case hw => rfl
  case hI => intro L wS hI; exact hI.pure (by decide)
  case hy =>
    intro L wS hI hw
    obtain ⟨xw, e⟩ := hI.see (hw 6 (by kernel_rfl))
    rw [e]
    unfold tupS
    first | (go_simp; done) | (go_simp; with_reducible rfl)
  case' hk => skip
  try simp only [Act.put, List.setIfInBounds_toArray, List.set_cons_zero, List.set_cons_succ]
  apply inv_op
  case hw => rfl
  case hy =>
    intro L wS hI hL hw
    refine gives_value (u := ptr2 wS.heap.size) (w' := wS.alloc (.cells #[.int .i64 0, .map none] 91)) ?_ (hI.alloc (knS Sr) hL (by decide)) trivial
    show _ = Result.ok (Next.value (.pointer (some ⟨wS.heap.size, 0, none⟩))) (wS.alloc (.cells #[.int .i64 0, .map none] 91))
    first | (go_simp; done) | (go_simp; with_reducible rfl)
  case' hk => skip
  try simp only [Act.put, List.setIfInBounds_toArray, List.set_cons_zero, List.set_cons_succ]
  apply inv_op
  case hw => rfl
  case hy =>
    intro L wS hI hL hw
    obtain ⟨gn, xw, e4, e3, hb, hst⟩ := hI.store (knS Sr) hL (hw 10 (by kernel_rfl)) (hw 7 (by kernel_rfl)) (by decide)
    obtain ⟨p0, p1⟩ := bk_two hb
    have fz0 := hb.free 0
    have fz1 := hb.free 1
    have hg := hb.lt
    rw [e4, e3]
    refine gives_skip ?_ (hst _ _ (only_store2 (Only.refl [gn] wS) (.inl List.mem_cons_self) (.int .i64 Sr.next) (.map xw)) (bk_store2 hb _ _)) trivial
    unfold ptr2 boxS
    go_simp
  case' hk => skip
  try simp only [Act.put]
  apply inv_val
  case hw => rfl
  case hI => intro L wS hI; exact hI.pure (by decide)
  case hy => intro L wS hI; skip; first | (go_simp; done) | (go_simp; with_reducible rfl)
  case' hk => skip
  try simp only [Act.put, List.setIfInBounds_toArray, List.set_cons_zero, List.set_cons_succ]
  apply inv_val
  case hw => rfl
  case hI => intro L wS hI; exact hI.pure (by decide)
  case hy => intro L wS hI; skip; first | (go_simp; done) | (go_simp; with_reducible rfl)
  case' hk => skip
  try simp only [Act.put, List.setIfInBounds_toArray, List.set_cons_zero, List.set_cons_succ]
  refine inv_end ?_
  intro L9 w2 hall hI
  obtain ⟨mu3, p8, e1, e2, e3, e4, hp8, N2, K2, O2⟩ := hI.end_ (knS Sr) ⟨hall 5 (by decide), hall 6 (by decide), hall 7 (by decide), hall 10 (by decide), hall 11 (by decide)⟩
  rw [e1, e2, e3, e4]
  clear e1 e2 e3 e4 hall hI
  unfold ptr2 tupS boxS
  unfold csS at N2
  have HC2 := HC1'.out.only O2 (by simp)
  obtain ⟨c0, c1, c2, c3⟩ := bk_four HC2
  have hgl := HC2.lt
  have HQ2 : Hid (Only [] w w2) := HO1.out.then O2
  have HAQ := Lib.hid (HAP.out w2 F G (HH.out.dk.keep HQ2.out) (HH.out.lgr.keep HQ2.out) HH.out.fg A1 cap1 (HV1.out.sl.keep O2) (fun _ ad e hm => by
    subst e
    have h1 := HB1.out ad.block (by simp [blks])
    have h2 := HH.out.dk.lt hm
    omega) (HT.out.keep HQ2.out))
  have HP8 : Hid (w.heap.size ≤ p8) := Nat.le_trans HO1.out.size hp8
  have HST : Hid (StIs (fun y => ((StK F G g y ∧ y ≠ p8) ∧ y < w2.heap.size) ∧ P y) w2 mu3 Sr) := StIs.mono K2 (fun y hl hy => ⟨⟨⟨hy.1.1, hy.2⟩, hl⟩, hy.1.2⟩)
  have HC2' := Lib.hid HC2
  have HN2 := Lib.hid N2
  clear hp8 HC2 K2 O2 N2 HAP HFR HSI HCV
  have HGF : Hid (g < w.heap.size) := HH.out.bk.lt
  go_wp2_with (go_at_call 43; go_must (refine HAQ.out.mono ?_); rintro e w3 ⟨rfl, F3, G3, D3, L3, FG3, Q3, B3, B4⟩; clear HAQ; have HC3 := HC2'.out.only Q3 (by simp [HH.out.own.1, HH.out.own.2]); have N3 := HN2.out.only Q3 (by simp; exact ⟨fun h => by have := HH.out.dk.lt h; have := HP8.out; omega, fun h => by have := HH.out.lgr.lt h; have := HP8.out; omega⟩); clear c0 c1 c2 c3 hgl; obtain ⟨c0, c1, c2, c3⟩ := bk_four HC3; have hgl := HC3.lt; obtain ⟨p0, p1⟩ := bk_two N3; have pl := N3.lt; have gf1 := HC3.free 1; have gf2 := HC3.free 2)
  have OS : Only [g] w3 ((w3.setCell ⟨g, 1, none⟩ (.int .i64 Sr.next)).setCell ⟨g, 2, none⟩ (.map mu3)) := ((Only.refl [g] w3).setCell (p := ⟨g, 1, none⟩) (.inl List.mem_cons_self) _).setCell (p := ⟨g, 2, none⟩) (.inl List.mem_cons_self) _
  have HC4 : Bk ((w3.setCell ⟨g, 1, none⟩ (.int .i64 Sr.next)).setCell ⟨g, 2, none⟩ (.map mu3)) g 93 #[.pointer (some ⟨lg, 0, none⟩), .int .i64 Sr.next, .map mu3, .bool false] := by simpa using (HC3.set 1 (.int .i64 Sr.next)).set 2 (.map mu3)
  have hgG : ∀ x ∈ G3, x ∉ [g] := fun x hx hh => by have h1 := List.mem_singleton.1 hh; rw [h1] at hx; exact (B4 g hx).elim HH.out.own.2 (fun h => by have := HQ2.out.size; have := HGF.out; omega)
  have L4 := L3.only OS hgG
  have HL4 := Lib.hid L4
  have HOS := Lib.hid OS
  have HCC := Lib.hid HC4
  have HGG := Lib.hid hgG
  refine (fold_few HC4 L4 HFE.out).mono ?_
  rintro e w5 ⟨rfl, O5⟩
  clear c0 c1 c2 c3 hgl p0 p1 pl gf1 gf2 OS HC4 L4 hgG
  go_wp2
  go_ret2
  have hgF : g ∉ F3 := fun h => by
    rcases B3 g h with h | h
    · exact HH.out.own.1 h
    · have := HQ2.out.size; have := HGF.out; omega
  have hsz := HQ2.out.size
  have HF : StIs (fun y => StK F3 G3 g y ∧ P y) w5 mu3 Sr := by
    refine StIs.mono (((HST.out.only Q3 (fun y hy hh => ?_)).only HOS.out (fun y hy hh => hy.1.1.1.2.2 (List.mem_singleton.1 hh))).keep O5) (fun y _ hy => ⟨⟨fun h => ?_, fun h => ?_, hy.1.1.1.2.2⟩, hy.2⟩)
    · rcases List.mem_append.1 hh with h | h
      · exact hy.1.1.1.1 h
      · exact hy.1.1.1.2.1 h
    · rcases B3 y h with h | h
      · exact hy.1.1.1.1 h
      · have := hy.1.2; omega
    · rcases B4 y h with h | h
      · exact hy.1.1.1.2.1 h
      · have := hy.1.2; omega
  refine ⟨rfl, F3, G3, mu3, ⟨HCC.out.only O5 (by simp), (D3.only HOS.out (fun x hx hh => hgF (by have h1 := List.mem_singleton.1 hh; rwa [h1] at hx))).keep O5, HL4.out.keep O5, FG3, HF.mono (fun y _ hy => hy.1), ⟨hgF, fun h => HGG.out g h (by simp)⟩, HGD.out⟩, ?_, fun x hx => ?_, fun x hx => ?_, HF⟩
  · refine Only.trans (Only.trans (Only.trans (HQ2.out.mono (fun _ hm => nomatch hm)) Q3 (fun x hx => .inl (List.mem_cons_of_mem _ hx))) HOS.out (fun x hx => .inl (by have h1 := List.mem_singleton.1 hx; simp [h1]))) O5 (fun _ hm => nomatch hm)
  · exact (B3 x hx).imp id (fun h => by omega)
  · exact (B4 x hx).imp id (fun h => by omega)
end
end Go.Proofs.YtgnilldcfpgpaaaGreatDoor
