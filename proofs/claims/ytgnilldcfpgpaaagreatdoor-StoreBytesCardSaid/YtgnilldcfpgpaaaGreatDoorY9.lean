/-
  Texts of the seat, laid one behind the other: DMeth SMapU SMapB SNames VExp VRefAdd0.
-/
import Derived.Test.YtgnilldcfpgpaaaGreatDoorY8
import Derived.Test.YtgnilldcfpgpaaaGreatDoorY7
import Derived.Shelf.SlMaps.Clone
import Derived.Shelf.Lay
import Derived.Laws.IdiomRangeMap
import Derived.Shelf.SlIter.Nil
import Derived.Shelf.SortM.Plain
import Derived.Shelf.SortM.SortNone
import Derived.Sort.KeysCollected
import Derived.Test.YtgnilldcfpgpaaaGreatDoorY6
import Derived.Test.YtgnilldcfpgpaaaGreatDoorY3
namespace Go.Proofs.YtgnilldcfpgpaaaGreatDoor
open Go.RowKit Go.Maps
theorem upd_ins {f : Fl} {h : Fl → Fl} (hn : (h f).name = f.name) : ∀ {fs : List Fl}, (∀ g ∈ fs, g.name ≠ f.name) → upd (ins f fs) f.name h = ins (h f) fs
  | [], _ => by simp [ins, upd]
  | g :: r, hx => by
    have h1 : g.name ≠ f.name := hx g (by simp)
    have h2 : upd r f.name h = r := by
      unfold upd
      conv => rhs; rw [← List.map_id r]
      exact List.map_congr_left fun x hm => if_neg (hx x (by simp [hm]))
    unfold ins
    rw [hn]
    split
    · unfold upd at h2 ⊢
      simp [h1, h2]
    · have ih := upd_ins hn (fs := r) fun x hm => hx x (by simp [hm])
      unfold upd at ih ⊢
      simp [h1, ih]
theorem tick_fuse {S : Dst} {lf : Nat} (h : ∀ k, S.fuse = some k → lf = k) : ∀ k, (tick S).fuse = some k → (if S.fuse.isSome then lf - 1 else lf) = k := by
  intro k hk
  unfold tick at hk
  cases hS : S.fuse with
  | none => rw [hS] at hk; cases hk
  | some j =>
    rw [hS] at hk
    simp at hk
    have := h j hS
    simp
    omega
theorem tick_some (S : Dst) : (tick S).fuse.isSome = S.fuse.isSome := by unfold tick; cases S.fuse <;> rfl
theorem tick_fs (S : Dst) : (tick S).fs = S.fs := rfl
theorem did_mk {w w' : World} {d room u lf : Nat} {fz : Bool} {mb mb' : Option Nat} {cs cs' : List Fc} {S' : Dst} {v : Value} {e : Ending} (he : e = .returned v)
    (h : Dk w' d room u fz lf mb' cs') (h1 : S'.room = room) (h2 : used S'.fs = u) (h3 : S'.fuse.isSome = fz) (h4 : cs'.map (·.f) = S'.fs) (h5 : ∀ k, S'.fuse = some k → lf = k) (h6 : u ≤ room)
    (o : Only (fpt d mb cs) w w') (hF : ∀ x ∈ fpt d mb' cs', x ∈ fpt d mb cs ∨ w.heap.size ≤ x) : Did d (fpt d mb cs) S' v w e w' := by
  refine ⟨he, fpt d mb' cs', ⟨lf, mb', cs', ?_, h4, h5, ?_, rfl⟩, o, hF⟩
  · rw [h1, h2, h3]; exact h
  · rw [h2, h1]; exact h6
theorem did_same {w w' : World} {d : Nat} {F : List Nat} {S : Dst} {v : Value} {e : Ending} (he : e = .returned v) (h : Disk w d F S) (o : Only [] w w') : Did d F S v w e w' :=
  ⟨he, F, h.keep o, o.mono (fun _ hx => by cases hx), fun x hx => .inl hx⟩
def Made (S : Dst) (w : World) (e : Ending) (w' : World) : Prop :=
  ∃ d, e = .returned (.tuple #[.pointer (some ⟨d, 0, none⟩), .int .i64 0]) ∧ Disk w' d [d] S ∧ Only [] w w' ∧ w.heap.size ≤ d
theorem dk_new (w : World) (r : Nat) (hr : r ≤ 1073741824) {u : Nat} (hu : u ≤ 1073741824) : Dk (w.alloc (.cells #[.int .i64 r, .int .i64 u, .map none, .bool false, .int .i64 0] 112)) w.heap.size r u false 0 none [] :=
  { bk := Bk.new w _ _, map := rfl, file := fun _ h => (by cases h), good := ⟨List.Pairwise.nil, Nat.zero_le _, fun _ h => (by cases h), fun _ h => (by cases h)⟩, nb := List.nodup_nil, na := List.nodup_nil, room' := hr, u' := hu, lf' := Nat.zero_le _, big := fun _ h => (by cases h) }
section
variable {w : World}
theorem new_any (r : Nat) (hr : r ≤ 1073741824) : Calls Tryz.prog 40 #[.int .i64 r] w (Made ⟨r, [], none⟩ w) := by
  have hk := dk_new w r hr (Nat.zero_le 1073741824)
  have HK := Lib.hid hk
  clear hk
  go_enter Tryz.func40, Tryz.ntmps40
  go_wp2
  go_ret2
  exact ⟨w.heap.size, rfl, ⟨0, none, [], HK.out, rfl, fun _ h => (by cases h), Nat.zero_le _, rfl⟩, (Only.refl _ _).alloc _, Nat.le_refl _⟩
variable {d : Nat} {F : List Nat} {S : Dst}
def Bytes (p : List UInt8) (r : Nat) (w : World) (e : Ending) (w' : World) : Prop :=
  ∃ A c, e = .returned (.tuple #[.slice A p.length c, .int .i64 r]) ∧ Own w' 5 A p.length c (bvs p) ∧ Only [] w w' ∧ ∀ k ∈ blks A, w.heap.size ≤ k
theorem findC_get {cs : List Fc} {fs : List Fl} (h : cs.map (·.f) = fs) (s : ByteArray) : get fs s = (findC cs s).map (·.f) := by rw [map_findC, h]
set_option maxRecDepth 100000 in
theorem read_any (h : Disk w d F S) (s : ByteArray) (hs : s.size ≤ maxLen) : Calls Tryz.prog 175 #[.pointer (some ⟨d, 0, none⟩), .string s] w (Bytes (readD S s) (readE S s) w) := by
  obtain ⟨lf, mb, cs, hk, h1, h2, h3, rfl⟩ := h
  obtain ⟨_, _, c2, _, _⟩ := hk.cell
  cases hc : findC cs s with
  | none =>
    have hg := findC_get h1 s
    rw [hc] at hg
    have e1 : readD S s = [] := by unfold readD; rw [hg]; rfl
    have e2 : readE S s = 7 := by unfold readE; rw [hg]; rfl
    rw [e1, e2]
    have hl := look_none hk.map hs hc
    clear hc hg e1 e2 hk h1 h2 h3
    go_enter Tryz.func175, Tryz.ntmps175
    go_wp2
    go_ret2
    exact ⟨none, 0, rfl, Own.nil _ _, Only.refl _ _, fun _ h => by cases h⟩
  | some c =>
    have hg := findC_get h1 s
    rw [hc] at hg
    have e1 : readD S s = c.f.data := by unfold readD; rw [hg]; rfl
    have e2 : readE S s = 0 := by unfold readE; rw [hg]; rfl
    rw [e1, e2]
    have hm := (findC_some hc).1
    have hl := look_hit hk.map hs hc
    obtain ⟨g0, _⟩ := hk.fcell hm
    have hown := (hk.file _ hm).2
    have hbig := hk.big _ hm
    have HC := Lib.hid (clone_any c.A c.f.data.length c.cap c.f.data w hown.sl (by omega))
    clear hc hg e1 e2 hk h1 h2 h3 hown hbig hm
    go_enter Tryz.func175, Tryz.ntmps175
    go_wp2_with (go_at_call 98; refine HC.out.mono ?_; rintro e w1 ⟨A1, c1, rfl, V1, O1, B1⟩)
    go_ret2
    exact ⟨A1, c1, rfl, V1, O1, B1⟩
end
end Go.Proofs.YtgnilldcfpgpaaaGreatDoor
namespace Go.Proofs.YtgnilldcfpgpaaaGreatDoor
open Go.RowKit Go.Maps Go.Sort Go.Shelf
def shpU : Value → Bool
  | .agg ⟨[.string _, .map _]⟩ => true
  | _ => false
theorem arrU {v : Value} (h : shpU v = true) : ∃ s2 mb2, v = .agg #[.string s2, .map mb2] := by
  unfold shpU at h
  split at h
  · exact ⟨_, _, rfl⟩
  · cases h
theorem zeroU (w : World) : (zeroValue 154).run Tryz.prog w = .ok (.agg #[.string ⟨#[]⟩, .map none]) w := by kernel_rfl
theorem lookU {w : World} {mb : Option Nat} {l : List Kv} (c : Bool) (h : KvIs shpU w mb l) {s : ByteArray} (hs : s.size ≤ maxLen) :
    (Instr.lookup 89 (.map mb) (.string s) c).run Tryz.prog w = .ok (if c then .tuple #[valK #[.string ⟨#[]⟩, .map none] l s, .bool (findL Prod.fst l s).isSome] else valK #[.string ⟨#[]⟩, .map none] l s) w :=
  look_kv c Tryz.underlying89 (zeroU w) rfl h hs
theorem lenU {w : World} {mb : Option Nat} {l : List Kv} (h : KvIs shpU w mb l) (ty : TypeId) : (Builtin.len_ #[89] ty #[.map mb]).run Tryz.prog w = .ok (.int .i64 (l.length : Int)) w := len_kv Tryz.underlying89 h ty
set_option maxHeartbeats 4000000 in
set_option maxRecDepth 100000 in
theorem copyU_any {w : World} {bd : Nat} {ps : Option Nat} {l : List Kv} (hd : KvAt shpU w bd []) (hs : KvIs shpU w ps l) (hne : ps ≠ some bd) (hroom : l.length ≤ 1000000) :
    Calls Tryz.prog 196 #[.map (some bd), .map ps] w fun e w' => e = .returned (.tuple #[]) ∧ KvAt shpU w' bd l ∧ Only [bd] w w' := by
  cases ps with
  | none =>
    obtain rfl : l = [] := hs
    have hrg := run_range_nilMap (P := Tryz.prog) w 89 9 154 Tryz.underlying89
    have hnx : ∀ ty, (Instr.next (.pointer (some ⟨w.heap.size, 0, none⟩)) false ty).run Tryz.prog (w.alloc (.mapIter none 0 #[] 0)) = _ := fun ty => run_next_nilMap w ty 0 0 #[]
    have HD := Lib.hid (hd.only ((Only.refl [] w).alloc (.mapIter none 0 #[] 0)) (by simp))
    clear hd
    go_enter Tryz.func196, Tryz.ntmps196
    go_wp2
    refine wp_loop_rounds 1 ?_
    rw [rounds_succ]
    go_wp2
    go_end0
    exact ⟨rfl, HD.out, (Only.refl [bd] w).alloc _⟩
  | some bs =>
    have hbd := hd.lt
    have hsz : Maps.size (DK l) = l.length := size_DK l
    have hbs : bs < w.heap.size := KvAt.lt hs
    have hbne : bd ≠ bs := fun e => hne (by rw [e])
    have hs' : w.ownsMap Tryz.prog 9 (heldP shpU) bs l.length (DK l) := hs
    have hd' : w.ownsMap Tryz.prog 9 (heldP shpU) bd 0 (.map []) := hd
    have HCL : Hid (Canon (DK l)) := World.ownsMap.canon hs' keyed
    clear hd hs
    go_enter Tryz.func196, Tryz.ntmps196
    go_wp2_with (first
      | (at_range; refine wpList_range_own _ rfl _ 89 rfl 9 154 keyed Tryz.underlying89 (heldP shpU) bs l.length (DK l) rfl hs' ?_; intro w0 hrg0 hg0 hs0))
    go_frame
    go_loopw [8] (fun _ wr => ∃ (left : Lit → Bool) (cnt : Nat) (Dout : DataW Value), wr.ranges Tryz.prog 9 (heldP shpU) bs w.heap.size l.length (DK l) left cnt ∧ cnt ≤ l.length ∧
        wr.ownsMap Tryz.prog 9 (heldP shpU) bd (l.length - cnt) Dout ∧ Agree Dout (DK l) left ∧ Only [bd] w wr)
      (fun _ wr => wr.rangeLeft bs w.heap.size)
    case atStart =>
      exact ⟨_, _, .map [], hrg0, by rw [hsz]; exact Nat.le_refl _, (hd'.kept hg0 (by simp)).mono (by omega), agree_start _, (Only.of_grown hg0).mono (fun x hx => by simp at hx)⟩
    case round =>
      obtain ⟨left, cnt, Dout, hrg, hcs, hout, hA, hgw⟩ := hrel
      go_wp2_with (first
        | (at_next; refine wpList_next_ranges _ rfl _ rfl 9 keyed (heldP shpU) id id (fun key _ _ => ⟨key, rfl⟩) (fun v _ _ => ⟨v, rfl⟩) bs w.heap.size l.length _ _ _ rfl hrg ?_ ?_)
        | go_in)
      · intro hc0 hl0
        go_wp2
        go_end0
        subst hc0
        have e := agree_end hA hl0 (hout.canon keyed) HCL.out
        subst e
        exact ⟨rfl, KvAt.of hout, hgw⟩
      · intro x c kl yd yp w1 cnt1 hkey hlx hv hat hrg1 hlt hg1 hs1 hen
        have hout1 := hout.kept hg1 (fun e => by have := Option.some.inj e; omega)
        obtain ⟨hc1, hc2⟩ := heldP_inv hv
        obtain ⟨vs, vm, rfl⟩ := arrU (v := c) hc1
        have hg1' : Only [bd] w w1 := hgw.trans (Only.of_grown hg1) (fun x hx => .inr (by simp at hx; omega))
        have HZZ := Lib.hid hs1
        have HLT := Lib.hid hlt
        have hbd1 : bd < w1.heap.size := hout1.lt
        clear hs1 hlt
        have hout2 := hout1.alloc (.cells #[.string vs, .map vm] 154)
        go_wp2_with (first
          | (at_mapUpdate; refine wpList_mapUpdate_own _ rfl _ _ _ 89 rfl 9 154 keyed Tryz.underlying89 (heldP shpU) bd _ Dout rfl hout2 (by unfold maxLen; omega) _ _ kl rfl rfl hkey yd yp hv ?_; intro w3 hout3 hg3; go_frame)
          | go_in)
        have hrg3 := (hrg1.kept (World.grownBy_alloc w1 (.cells #[.string vs, .map vm] 154) none) (by simp) (by simp)).kept hg3 (fun e => hbne (Option.some.inj e).symm) (fun e => by have := Option.some.inj e; omega)
        go_roundw
        case rel =>
          refine ⟨_, cnt1, _, hrg3, by have := HLT.out; omega, hout3.mono (by have := HLT.out; omega), agree_step hA hout2.isMap (keyed.key hkey) hat, ?_⟩
          exact (hg1'.alloc _).trans (Only.of_grown hg3) (fun x hx => .inl (by simpa using hx))
        case measure => rw [hrg3.left_eq, hrg.left_eq]; exact HLT.out
theorem mkU (q : Int) (w : World) : (Instr.makeMap 89 (some (.int .i64 q))).run Tryz.prog w = .ok (.map (some w.heap.size)) (w.alloc (.map #[] 0)) := by
  simp [Instr.makeMap, run_underlying Tryz.underlying89, asInt, go_sem, Result.andThen]
def WithedU (w : World) (l : List Kv) (e : Ending) (w' : World) : Prop := ∃ m', e = .returned (.map (some m')) ∧ KvAt shpU w' m' l ∧ Only [] w w' ∧ w.heap.size ≤ m'
set_option maxRecDepth 100000 in
theorem withU_any {w : World} {mb : Option Nat} {l : List Kv} (h : KvIs shpU w mb l) (s : ByteArray) (hs : s.size ≤ maxLen) (s2 : ByteArray) (mb2 : Option Nat) (hl : l.length ≤ 100000) :
    Calls Tryz.prog 152 #[.map mb, .string s, .agg #[.string s2, .map mb2]] w (WithedU w (putL Prod.fst (s, .agg #[.string s2, .map mb2]) l)) := by
  have hk := key_of s hs
  have ho : Only [] w (w.alloc (.cells #[.string s2, .map mb2] 154)) := (Only.refl [] w).alloc _
  have hln := lenU (h.keep ho)
  have HW : Hid (IntKind.i64.wrap ((l.length : Int) + 1) = (l.length : Int) + 1) := IntWalk.i64_in _ (by omega)
  have hw64 := HW.out
  have ho2 : Only [] w ((w.alloc (.cells #[.string s2, .map mb2] 154)).alloc (.map #[] 0)) := ho.alloc _
  have hd : KvAt shpU ((w.alloc (.cells #[.string s2, .map mb2] 154)).alloc (.map #[] 0)) (w.heap.size + 1) [] := by
    have := World.ownsMap_made (w.alloc (.cells #[.string s2, .map mb2] 154)) Tryz.prog 9 (heldP shpU)
    rw [World.size_alloc] at this
    exact this
  have HC := Lib.hid (copyU_any hd (h.keep ho2) (fun e => by have := h.lt _ e; omega) (by omega))
  have hB := (Bk.new w 154 #[.string s2, .map mb2]).alloc (.map #[] 0)
  have HO2 := Lib.hid ho2
  have HKV := Lib.hid (put_DK (s, .agg #[.string s2, .map mb2]) l)
  have hnl : 0 ≤ (l.length : Int) + 1 := by omega
  have HL2 : Hid (l.length ≤ 100000) := hl
  have hmk := fun (q : Int) (W : World) => mkU q W
  generalize l.length = n at hln HW hw64 hl hnl
  clear h ho ho2 hd
  go_enter Tryz.func152, Tryz.ntmps152
  go_wp2_with (first
    | (go_at_call 196; go_must (refine HC.out.mono ?_); rintro e w3 ⟨rfl, K3, O3⟩; have B3 := hB.only O3 (by simp); have c0 := B3.cell 0; have c1 := B3.cell 1; have lb := B3.lt)
    | (at_mapUpdate; refine wpList_mapUpdate_own _ rfl _ _ _ 89 rfl 9 154 keyed Tryz.underlying89 (heldP shpU) (w.heap.size + 1) l.length (DK l) rfl K3 (by have := HL2.out; unfold maxLen; omega) _ _ (keyLit s) rfl rfl hk (.held (.agg #[.string s2, .map mb2])) [] rfl ?_; intro w4 hout4 hg4; go_frame))
  go_ret
  rw [HKV.out] at hout4
  exact ⟨_, rfl, KvAt.of hout4, ((HO2.out.mono (ss := [w.heap.size + 1]) (fun _ hx => nomatch hx)).trans O3 (fun x hx => .inl hx)).trans (Only.of_grown hg4) (fun x hx => .inl (by simpa using hx)) |>.mono (fun x hx => .inr (by simp at hx; omega)), Nat.le_succ _⟩
end Go.Proofs.YtgnilldcfpgpaaaGreatDoor
namespace Go.Proofs.YtgnilldcfpgpaaaGreatDoor
open Go.RowKit Go.Maps Go.Sort Go.Shelf
def shpB : Value → Bool
  | .agg ⟨[.string _, .int .i64 _, .int .i64 _, .slice _ _ _]⟩ => true
  | _ => false
theorem arrB {v : Value} (h : shpB v = true) : ∃ s2 vl nx A n2 c, v = .agg #[.string s2, .int .i64 vl, .int .i64 nx, .slice A n2 c] := by
  unfold shpB at h
  split at h
  · exact ⟨_, _, _, _, _, _, rfl⟩
  · cases h
theorem zeroB (w : World) : (zeroValue 71).run Tryz.prog w = .ok (.agg #[.string ⟨#[]⟩, .int .i64 0, .int .i64 0, .slice none 0 0]) w := by kernel_rfl
theorem lookB {w : World} {mb : Option Nat} {l : List Kv} (c : Bool) (h : KvIs shpB w mb l) {s : ByteArray} (hs : s.size ≤ maxLen) :
    (Instr.lookup 152 (.map mb) (.string s) c).run Tryz.prog w = .ok (if c then .tuple #[valK #[.string ⟨#[]⟩, .int .i64 0, .int .i64 0, .slice none 0 0] l s, .bool (findL Prod.fst l s).isSome] else valK #[.string ⟨#[]⟩, .int .i64 0, .int .i64 0, .slice none 0 0] l s) w :=
  look_kv c Tryz.underlying152 (zeroB w) rfl h hs
theorem lenB {w : World} {mb : Option Nat} {l : List Kv} (h : KvIs shpB w mb l) (ty : TypeId) : (Builtin.len_ #[152] ty #[.map mb]).run Tryz.prog w = .ok (.int .i64 (l.length : Int)) w := len_kv Tryz.underlying152 h ty
set_option maxHeartbeats 4000000 in
set_option maxRecDepth 100000 in
theorem copyB_any {w : World} {bd : Nat} {ps : Option Nat} {l : List Kv} (hd : KvAt shpB w bd []) (hs : KvIs shpB w ps l) (hne : ps ≠ some bd) (hroom : l.length ≤ 1000000) :
    Calls Tryz.prog 227 #[.map (some bd), .map ps] w fun e w' => e = .returned (.tuple #[]) ∧ KvAt shpB w' bd l ∧ Only [bd] w w' := by
  cases ps with
  | none =>
    obtain rfl : l = [] := hs
    have hrg := run_range_nilMap (P := Tryz.prog) w 152 9 71 Tryz.underlying152
    have hnx : ∀ ty, (Instr.next (.pointer (some ⟨w.heap.size, 0, none⟩)) false ty).run Tryz.prog (w.alloc (.mapIter none 0 #[] 0)) = _ := fun ty => run_next_nilMap w ty 0 0 #[]
    have HD := Lib.hid (hd.only ((Only.refl [] w).alloc (.mapIter none 0 #[] 0)) (by simp))
    clear hd
    go_enter Tryz.func227, Tryz.ntmps227
    go_wp2
    refine wp_loop_rounds 1 ?_
    rw [rounds_succ]
    go_wp2
    go_end0
    exact ⟨rfl, HD.out, (Only.refl [bd] w).alloc _⟩
  | some bs =>
    have hbd := hd.lt
    have hsz : Maps.size (DK l) = l.length := size_DK l
    have hbs : bs < w.heap.size := KvAt.lt hs
    have hbne : bd ≠ bs := fun e => hne (by rw [e])
    have hs' : w.ownsMap Tryz.prog 9 (heldP shpB) bs l.length (DK l) := hs
    have hd' : w.ownsMap Tryz.prog 9 (heldP shpB) bd 0 (.map []) := hd
    have HCL : Hid (Canon (DK l)) := World.ownsMap.canon hs' keyed
    clear hd hs
    go_enter Tryz.func227, Tryz.ntmps227
    go_wp2_with (first
      | (at_range; refine wpList_range_own _ rfl _ 152 rfl 9 71 keyed Tryz.underlying152 (heldP shpB) bs l.length (DK l) rfl hs' ?_; intro w0 hrg0 hg0 hs0))
    go_frame
    go_loopw [8] (fun _ wr => ∃ (left : Lit → Bool) (cnt : Nat) (Dout : DataW Value), wr.ranges Tryz.prog 9 (heldP shpB) bs w.heap.size l.length (DK l) left cnt ∧ cnt ≤ l.length ∧
        wr.ownsMap Tryz.prog 9 (heldP shpB) bd (l.length - cnt) Dout ∧ Agree Dout (DK l) left ∧ Only [bd] w wr)
      (fun _ wr => wr.rangeLeft bs w.heap.size)
    case atStart =>
      exact ⟨_, _, .map [], hrg0, by rw [hsz]; exact Nat.le_refl _, (hd'.kept hg0 (by simp)).mono (by omega), agree_start _, (Only.of_grown hg0).mono (fun x hx => by simp at hx)⟩
    case round =>
      obtain ⟨left, cnt, Dout, hrg, hcs, hout, hA, hgw⟩ := hrel
      go_wp2_with (first
        | (at_next; refine wpList_next_ranges _ rfl _ rfl 9 keyed (heldP shpB) id id (fun key _ _ => ⟨key, rfl⟩) (fun v _ _ => ⟨v, rfl⟩) bs w.heap.size l.length _ _ _ rfl hrg ?_ ?_)
        | go_in)
      · intro hc0 hl0
        go_wp2
        go_end0
        subst hc0
        have e := agree_end hA hl0 (hout.canon keyed) HCL.out
        subst e
        exact ⟨rfl, KvAt.of hout, hgw⟩
      · intro x c kl yd yp w1 cnt1 hkey hlx hv hat hrg1 hlt hg1 hs1 hen
        have hout1 := hout.kept hg1 (fun e => by have := Option.some.inj e; omega)
        obtain ⟨hc1, hc2⟩ := heldP_inv hv
        obtain ⟨vs, vv, vx, vA, vn, vc, rfl⟩ := arrB (v := c) hc1
        have hg1' : Only [bd] w w1 := hgw.trans (Only.of_grown hg1) (fun x hx => .inr (by simp at hx; omega))
        have HZZ := Lib.hid hs1
        have HLT := Lib.hid hlt
        have hbd1 : bd < w1.heap.size := hout1.lt
        clear hs1 hlt
        have hout2 := hout1.alloc (.cells #[.string vs, .int .i64 vv, .int .i64 vx, .slice vA vn vc] 71)
        go_wp2_with (first
          | (at_mapUpdate; refine wpList_mapUpdate_own _ rfl _ _ _ 152 rfl 9 71 keyed Tryz.underlying152 (heldP shpB) bd _ Dout rfl hout2 (by unfold maxLen; omega) _ _ kl rfl rfl hkey yd yp hv ?_; intro w3 hout3 hg3; go_frame)
          | go_in)
        have hrg3 := (hrg1.kept (World.grownBy_alloc w1 (.cells #[.string vs, .int .i64 vv, .int .i64 vx, .slice vA vn vc] 71) none) (by simp) (by simp)).kept hg3 (fun e => hbne (Option.some.inj e).symm) (fun e => by have := Option.some.inj e; omega)
        go_roundw
        case rel =>
          refine ⟨_, cnt1, _, hrg3, by have := HLT.out; omega, hout3.mono (by have := HLT.out; omega), agree_step hA hout2.isMap (keyed.key hkey) hat, ?_⟩
          exact (hg1'.alloc _).trans (Only.of_grown hg3) (fun x hx => .inl (by simpa using hx))
        case measure => rw [hrg3.left_eq, hrg.left_eq]; exact HLT.out
theorem mkB (q : Int) (w : World) : (Instr.makeMap 152 (some (.int .i64 q))).run Tryz.prog w = .ok (.map (some w.heap.size)) (w.alloc (.map #[] 0)) := by
  simp [Instr.makeMap, run_underlying Tryz.underlying152, asInt, go_sem, Result.andThen]
def WithedB (w : World) (l : List Kv) (e : Ending) (w' : World) : Prop := ∃ m', e = .returned (.map (some m')) ∧ KvAt shpB w' m' l ∧ Only [] w w' ∧ w.heap.size ≤ m'
set_option maxRecDepth 100000 in
theorem withB_any {w : World} {mb : Option Nat} {l : List Kv} (h : KvIs shpB w mb l) (s : ByteArray) (hs : s.size ≤ maxLen) (s2 : ByteArray) (vl nx : Int) (A : Option Addr) (n2 c : Nat) (hl : l.length ≤ 100000) :
    Calls Tryz.prog 198 #[.map mb, .string s, .agg #[.string s2, .int .i64 vl, .int .i64 nx, .slice A n2 c]] w (WithedB w (putL Prod.fst (s, .agg #[.string s2, .int .i64 vl, .int .i64 nx, .slice A n2 c]) l)) := by
  have hk := key_of s hs
  have ho : Only [] w (w.alloc (.cells #[.string s2, .int .i64 vl, .int .i64 nx, .slice A n2 c] 71)) := (Only.refl [] w).alloc _
  have hln := lenB (h.keep ho)
  have HW : Hid (IntKind.i64.wrap ((l.length : Int) + 1) = (l.length : Int) + 1) := IntWalk.i64_in _ (by omega)
  have hw64 := HW.out
  have ho2 : Only [] w ((w.alloc (.cells #[.string s2, .int .i64 vl, .int .i64 nx, .slice A n2 c] 71)).alloc (.map #[] 0)) := ho.alloc _
  have hd : KvAt shpB ((w.alloc (.cells #[.string s2, .int .i64 vl, .int .i64 nx, .slice A n2 c] 71)).alloc (.map #[] 0)) (w.heap.size + 1) [] := by
    have := World.ownsMap_made (w.alloc (.cells #[.string s2, .int .i64 vl, .int .i64 nx, .slice A n2 c] 71)) Tryz.prog 9 (heldP shpB)
    rw [World.size_alloc] at this
    exact this
  have HC := Lib.hid (copyB_any hd (h.keep ho2) (fun e => by have := h.lt _ e; omega) (by omega))
  have hB := (Bk.new w 71 #[.string s2, .int .i64 vl, .int .i64 nx, .slice A n2 c]).alloc (.map #[] 0)
  have HO2 := Lib.hid ho2
  have HKV := Lib.hid (put_DK (s, .agg #[.string s2, .int .i64 vl, .int .i64 nx, .slice A n2 c]) l)
  have hnl : 0 ≤ (l.length : Int) + 1 := by omega
  have HL2 : Hid (l.length ≤ 100000) := hl
  have hmk := fun (q : Int) (W : World) => mkB q W
  generalize l.length = n at hln HW hw64 hl hnl
  clear h ho ho2 hd
  go_enter Tryz.func198, Tryz.ntmps198
  go_wp2_with (first
    | (go_at_call 227; go_must (refine HC.out.mono ?_); rintro e w3 ⟨rfl, K3, O3⟩; have B3 := hB.only O3 (by simp); have c0 := B3.cell 0; have c1 := B3.cell 1; have c2 := B3.cell 2; have c3 := B3.cell 3; have lb := B3.lt)
    | (at_mapUpdate; refine wpList_mapUpdate_own _ rfl _ _ _ 152 rfl 9 71 keyed Tryz.underlying152 (heldP shpB) (w.heap.size + 1) l.length (DK l) rfl K3 (by have := HL2.out; unfold maxLen; omega) _ _ (keyLit s) rfl rfl hk (.held (.agg #[.string s2, .int .i64 vl, .int .i64 nx, .slice A n2 c])) [] rfl ?_; intro w4 hout4 hg4; go_frame))
  go_ret
  rw [HKV.out] at hout4
  exact ⟨_, rfl, KvAt.of hout4, ((HO2.out.mono (ss := [w.heap.size + 1]) (fun _ hx => nomatch hx)).trans O3 (fun x hx => .inl hx)).trans (Only.of_grown hg4) (fun x hx => .inl (by simpa using hx)) |>.mono (fun x hx => .inr (by simp at hx; omega)), Nat.le_succ _⟩
end Go.Proofs.YtgnilldcfpgpaaaGreatDoor
namespace Go.Proofs.YtgnilldcfpgpaaaGreatDoor
open Go.RowKit Go.Maps Go.Sort Go.Shelf
set_option maxHeartbeats 2000000 in
set_option maxRecDepth 100000 in
theorem cloneB_any {w : World} {b : Nat} {l : List Kv} (h : KvAt shpB w b l) : Calls Tryz.prog 197 #[.map (some b)] w fun e w' => e = .returned (.map (some w.heap.size)) ∧ KvAt shpB w' w.heap.size l ∧ Only [] w w' := by
  obtain ⟨es, clock, hb, F, hs, hD⟩ := h
  have hlt : b < w.heap.size := lt_of_block hb
  have hq := fun w => run_eql_map_nil_sl (P := Tryz.prog) w 152 _ _ (some b) Tryz.underlying152
  have HK : Hid (KvAt shpB (w.alloc (.map es clock)) w.heap.size l) := ⟨es, clock, (MapKept.heap_alloc w _).1, F, hs, hD⟩
  clear F hs hD
  go_enter Tryz.func197, Tryz.ntmps197
  go_wp2
  rw [run_callFunc_extern Tryz.func226 (by kernel_rfl) (by kernel_rfl) (by kernel_rfl) (e := Extern.MapsClone.clone) (by kernel_rfl), run_maps_clone_sl w 152 hb]
  simp only [Result.andThen]
  rw [Oper.upon_value]
  go_wp2
  rw [run_typeAssert_map_sl _ 152 20 _ _ _ Tryz.underlying152]
  simp only [Result.andThen]
  rw [Oper.upon_value]
  go_wp2
  go_ret
  exact ⟨rfl, HK.out, (Only.refl [] w).alloc _⟩
set_option maxRecDepth 100000 in
theorem withoutB_any {w : World} {b : Nat} {l : List Kv} (h : KvAt shpB w b l) (s : ByteArray) (hs : s.size ≤ maxLen) :
    Calls Tryz.prog 153 #[.map (some b), .string s] w (WithedB w (delL Prod.fst l s)) := by
  have hk := key_of s hs
  have HC := Lib.hid (cloneB_any h)
  have HDL := Lib.hid (del_DK l s)
  clear h
  go_enter Tryz.func153, Tryz.ntmps153
  go_wp2_with (first
    | (go_at_call 197; go_must (refine HC.out.mono ?_); rintro e w2 ⟨rfl, K2, O2⟩)
    | (at_delete; refine wpList_delete_own _ rfl _ _ 152 9 rfl 71 keyed Tryz.underlying152 (heldP shpB) w.heap.size l.length (DK l) rfl K2 _ (keyLit s) rfl hk ?_; intro w3 hout3 hturn3))
  go_ret
  rw [HDL.out] at hout3
  exact ⟨_, rfl, KvAt.of hout3, O2.trans (rs := []) (Only.of_grown hturn3.grown) (fun x hx => .inr (by simp at hx; omega)), Nat.le_refl _⟩
end Go.Proofs.YtgnilldcfpgpaaaGreatDoor
namespace Go.Proofs.YtgnilldcfpgpaaaGreatDoor
open Go.RowKit Go.Instr
theorem stay_hit {us : List Int} {l : List Mg} {k : Nat} (h : k < l.length) (hb : hasU us l[k].uid = true) : stayL us (l.take (k + 1)) = stayL us (l.take k) ∧ goneL us (l.take (k + 1)) = goneL us (l.take k) ++ [l[k].uid] := by
  unfold stayL goneL
  rw [filter_succ h, filter_succ h]
  simp [hb]
theorem stay_miss {us : List Int} {l : List Mg} {k : Nat} (h : k < l.length) (hb : hasU us l[k].uid = false) : stayL us (l.take (k + 1)) = stayL us (l.take k) ++ [l[k]] ∧ goneL us (l.take (k + 1)) = goneL us (l.take k) := by
  unfold stayL goneL
  rw [filter_succ h, filter_succ h]
  simp [hb]
def Expd (S : Nat → Prop) (w : World) (b : Bx) (gl : List Int) (e : Ending) (w' : World) : Prop :=
  ∃ A' c' Ag cg, e = .returned (.tuple #[bxv b A' c', .slice Ag gl.length cg]) ∧ Ms S w' A' b.l.length b.l ∧ Sl w' Ag gl.length (ivs gl) ∧ (∀ k ∈ blks Ag, w.heap.size ≤ k) ∧ Only [] w w'
theorem Mo.below {S : Nat → Prop} {w : World} {A : Option Addr} {n c : Nat} {l : List Mg} (h : Mo S w A n c l) : Mo (fun x => S x ∧ x < w.heap.size) w A n c l := by
  have hlt := fun k hk => h.lt (k := k) hk
  obtain ⟨h1, h2, xs, h3, h4⟩ := h
  exact ⟨h1, fun x hx => ⟨h2 x hx, hlt x hx⟩, xs, h3, h4.lt.mono (fun x hx => ⟨⟨hx.1.1, hx.2⟩, hx.1.2⟩)⟩
def ExpR (S : Nat → Prop) (w1 wr : World) (us : List Int) (l : List Mg) (k : Nat) (sv gv : Value) : Prop :=
  ∃ As ns cs Ag ng cg, sv = .slice As ns cs ∧ gv = .slice Ag ng cg ∧ Mo (fun y => S y ∧ y ∉ blks Ag) wr As ns cs (stayL us (l.take k)) ∧ Own wr 3 Ag ng cg (ivs (goneL us (l.take k))) ∧ ns ≤ k ∧ ng ≤ k ∧ (∀ x ∈ blks As, w1.heap.size ≤ x) ∧ (∀ x ∈ blks Ag, w1.heap.size ≤ x) ∧ Only [] w1 wr
theorem ExpR.start (S : Nat → Prop) (w1 : World) (us : List Int) (l : List Mg) : ExpR S w1 w1 us l 0 (.slice none 0 0) (.slice none 0 0) :=
  ⟨none, 0, 0, none, 0, 0, rfl, rfl, Mo.nil _ _, Own.nil _ _, Nat.le_refl _, Nat.le_refl _, (fun _ h => nomatch h), (fun _ h => nomatch h), Only.refl _ _⟩
theorem ExpR.gone {S : Nat → Prop} {w1 wr w2 w3 : World} {us : List Int} {l : List Mg} {k : Nat} {As Ag Ag' : Option Addr} {ns cs ng cg' : Nat} (hk : k < l.length) (hb : hasU us l[k].uid = true) (M : Mo (fun y => S y ∧ y ∉ blks Ag) wr As ns cs (stayL us (l.take k))) (hns : ns ≤ k) (hng : ng ≤ k)
    (BS : ∀ x ∈ blks As, w1.heap.size ≤ x) (BG : ∀ x ∈ blks Ag, w1.heap.size ≤ x) (O : Only [] w1 wr) (O2 : Only [] wr w2) (O3 : Only (blks Ag) w2 w3) (V3 : Own w3 3 Ag' (ng + 1) cg' (ivs (goneL us (l.take k)) ++ [.int .i64 l[k].uid])) (B3 : ∀ x ∈ blks Ag', x ∈ blks Ag ∨ w2.heap.size ≤ x) :
    ExpR S w1 w3 us l (k + 1) (.slice As ns cs) (.slice Ag' (ng + 1) cg') := by
  obtain ⟨e1, e2⟩ := stay_hit hk hb
  have z1 := O.size
  have z2 := O2.size
  refine ⟨As, ns, cs, Ag', ng + 1, cg', rfl, rfl, ?_, ?_, by omega, by omega, BS, fun x hx => ?_, ((O.then O2).mono (ss := blks Ag) (fun _ h => nomatch h)).trans O3 (fun x hx => .inl hx) |>.mono (fun x hx => .inr (BG x hx))⟩
  · rw [e1]
    refine (((M.keep O2).below).only O3 (fun x hx => hx.1.2)).mono (fun x hx => ⟨hx.1.1, fun hm => ?_⟩)
    rcases B3 x hm with h | h
    · exact hx.1.2 h
    · have := hx.2; omega
  · rw [e2]
    simpa [ivs] using V3
  · rcases B3 x hx with h | h
    · exact BG x h
    · omega
theorem ExpR.stay {S : Nat → Prop} {w1 wr w2 w3 : World} {us : List Int} {l : List Mg} {k : Nat} {As Ag As' : Option Addr} {ns ng cg cs' : Nat} (hk : k < l.length) (hb : hasU us l[k].uid = false) (BV : ∀ x ∈ blks Ag, x ∉ blks As) (V : Own wr 3 Ag ng cg (ivs (goneL us (l.take k)))) (hns : ns ≤ k) (hng : ng ≤ k)
    (BS : ∀ x ∈ blks As, w1.heap.size ≤ x) (BG : ∀ x ∈ blks Ag, w1.heap.size ≤ x) (O : Only [] w1 wr) (O2 : Only [] wr w2) (O3 : Only (blks As) w2 w3) (M3 : Mo (fun y => S y ∧ y ∉ blks Ag) w3 As' (ns + 1) cs' (stayL us (l.take k) ++ [l[k]])) (B3 : ∀ x ∈ blks As', x ∈ blks As ∨ w2.heap.size ≤ x) :
    ExpR S w1 w3 us l (k + 1) (.slice As' (ns + 1) cs') (.slice Ag ng cg) := by
  obtain ⟨e1, e2⟩ := stay_miss hk hb
  have z1 := O.size
  have z2 := O2.size
  refine ⟨As', ns + 1, cs', Ag, ng, cg, rfl, rfl, by rw [e1]; exact M3, ?_, by omega, by omega, fun x hx => ?_, BG, ((O.then O2).mono (ss := blks As) (fun _ h => nomatch h)).trans O3 (fun x hx => .inl hx) |>.mono (fun x hx => .inr (BS x hx))⟩
  · rw [e2]
    exact (V.keep O2).only O3 BV
  · rcases B3 x hx with h | h
    · exact BS x h
    · omega
set_option maxRecDepth 100000 in
set_option maxHeartbeats 4000000 in
theorem Expunge_any {S : Nat → Prop} {w : World} (b : Bx) {A : Option Addr} {c : Nat} (h : Ms S w A b.l.length b.l) (hn : b.l.length ≤ 1000000) (hb : ∀ m ∈ b.l, m.body.length ≤ 1000000) (hS : ∀ x, w.heap.size ≤ x → S x)
    (U : Option Addr) (nu cu : Nat) (us : List Int) (hU : Sl w U nu (ivs us)) (hnu : nu ≤ 140737488355328) :
    Calls Tryz.prog 156 #[bxv b A c, .slice U nu cu] w (Expd S w (expB b us) (goneL us b.l)) := by
  obtain ⟨s, v, x, l⟩ := b
  obtain ⟨n, hl⟩ : ∃ n, l.length = n := ⟨_, rfl⟩
  simp only at h hn hb
  rw [bxv_eq hl]
  rw [hl] at h hn
  obtain ⟨i0, hi, hz0, hz1, hz2⟩ := info_parts infoInt
  have hO1 : Only [] w ((w.alloc (.cells #[.string (St s), .int .i64 v, .int .i64 x, .slice A n c] 71)).alloc (.cells #[.string ⟨#[]⟩, .int .i64 0, .int .i64 0, .slice none 0 0] 71)) := ((Only.refl _ _).alloc _).alloc _
  have hT : ∀ y, w.heap.size + 1 < y → S y ∧ y ≠ w.heap.size ∧ y ≠ w.heap.size + 1 := fun y hy => ⟨hS y (by omega), by omega, by omega⟩
  have b1 := (Bk.new w 71 #[.string (St s), .int .i64 v, .int .i64 x, .slice A n c]).alloc (.cells #[.string ⟨#[]⟩, .int .i64 0, .int .i64 0, .slice none 0 0] 71)
  have b2 := Bk.new (w.alloc (.cells #[.string (St s), .int .i64 v, .int .i64 x, .slice A n c] 71)) 71 #[.string ⟨#[]⟩, .int .i64 0, .int .i64 0, .slice none 0 0]
  rw [World.size_alloc] at b2
  have HM := Lib.hid ((h.lt.mono (S' := fun y => S y ∧ y ≠ w.heap.size ∧ y ≠ w.heap.size + 1) (fun y hy => ⟨hy.1, by omega, by omega⟩)).keep hO1)
  have HUU := Lib.hid (hU.keep hO1)
  have HB1 := Lib.hid b1
  have HB2 := Lib.hid b2
  have HT := Lib.hid hT
  have HL := Lib.hid hl
  have HBY := Lib.hid hb
  have hsz : w.heap.size + 1 < ((w.alloc (.cells #[.string (St s), .int .i64 v, .int .i64 x, .slice A n c] 71)).alloc (.cells #[.string ⟨#[]⟩, .int .i64 0, .int .i64 0, .slice none 0 0] 71)).heap.size := by simp
  obtain ⟨b', hb'⟩ : ∃ b', expB ⟨s, v, x, l⟩ us = b' := ⟨_, rfl⟩
  obtain ⟨gl, hgl⟩ : ∃ gl, goneL us l = gl := ⟨_, rfl⟩
  rw [hb']
  simp only
  rw [hgl]
  have HB' := Lib.hid hb'
  have HGL := Lib.hid hgl
  have HO1 := Lib.hid hO1
  obtain ⟨t, ht⟩ : ∃ t, St s = t := ⟨_, rfl⟩
  have HTT := Lib.hid ht
  rw [ht] at HM HB1 HB2 HO1 HUU hsz ⊢
  clear h hb hS hO1 hT b1 b2 hl ht hb' hgl hU
  go_enter Tryz.func156, Tryz.ntmps156
  go_wp2
  generalize ((w.alloc (.cells #[.string t, .int .i64 v, .int .i64 x, .slice A n c] 71)).alloc (.cells #[.string ⟨#[]⟩, .int .i64 0, .int .i64 0, .slice none 0 0] 71)) = w1 at *
  go_loopw [6, 7, 13] (fun sv gv iv wr => ∃ k : Nat, iv = .int .i64 (k : Int) ∧ k ≤ n ∧ Hid (ExpR (fun y => S y ∧ y ≠ w.heap.size ∧ y ≠ w.heap.size + 1) w1 wr us l k sv gv)) (fun _ _ iv _ => n - (intOf iv).toNat)
  case atStart => exact ⟨0, rfl, Nat.zero_le _, ExpR.start _ _ _ _⟩
  case round =>
    obtain ⟨k, rfl, hk, HK⟩ := hrel
    obtain ⟨As, ns, cs, Ag, ng, cg, rfl, rfl, M, V, hns, hng, BS, BG, O⟩ := HK.out
    have HMO := Lib.hid M
    have HOW := Lib.hid V
    have HBS := Lib.hid BS
    have HBG := Lib.hid BG
    clear HK M V BS BG
    by_cases hlt : k < n
    · have hlt' : (k : Int) < (n : Int) := by omega
      have hkl : k < l.length := by rw [HL.out]; exact hlt
      obtain ⟨ad, Ab, cb, rfl, hadS, m0, m1, m2, m3, hsl, hst⟩ := (HM.out.lt.keep O).at_ hlt hkl
      have cU := Lib.hid (fun (W : World) (o : Only [] w1 W) => Contains_any (c := cu) (HUU.out.keep o) hnu l[k].uid)
      obtain ⟨p, hp⟩ : ∃ p, hasU us l[k].uid = p := ⟨_, rfl⟩
      rw [hp] at cU
      have HG := Lib.hid (fun (h : p = true) (w2 w3 : World) (Ag' : Option Addr) (cg' : Nat) (O2 : Only [] wr w2) (O3 : Only (blks Ag) w2 w3) (V3 : Own w3 3 Ag' (ng + 1) cg' (ivs (goneL us (l.take k)) ++ [.int .i64 l[k].uid])) (B3 : ∀ x ∈ blks Ag', x ∈ blks Ag ∨ w2.heap.size ≤ x) => ExpR.gone hkl (hp.trans h) HMO.out hns hng HBS.out HBG.out O O2 O3 V3 B3)
      have HST := Lib.hid (fun (h : p = false) (w2 w3 : World) (As' : Option Addr) (cs' : Nat) (O2 : Only [] wr w2) (O3 : Only (blks As) w2 w3) (M3 : Mo (fun y => (S y ∧ y ≠ w.heap.size ∧ y ≠ w.heap.size + 1) ∧ y ∉ blks Ag) w3 As' (ns + 1) cs' (stayL us (l.take k) ++ [l[k]])) (B3 : ∀ x ∈ blks As', x ∈ blks As ∨ w2.heap.size ≤ x) => ExpR.stay hkl (hp.trans h) (fun x hx hm => (HMO.out.2.1 x hm).2 hx) HOW.out hns hng HBS.out HBG.out O O2 O3 M3 B3)
      have HMS : Hid (∀ (g2 : Nat) (W : World), wr.heap.size ≤ g2 → g2 ∉ blks As → Only [] wr W → Bk W g2 82 #[.int .i64 l[k].uid, .int .i64 l[k].flags, .int .i64 l[k].date, .slice Ab l[k].body.length cb] →
          Ms (fun y => ((S y ∧ y ≠ w.heap.size ∧ y ≠ w.heap.size + 1) ∧ y ∉ blks Ag) ∧ y ∉ blks As) W (some ⟨g2, 0, none⟩) 1 [l[k]]) := fun g2 W h1 h2 o hB => by
        have z := O.size
        refine Ms.of_bk hB ⟨⟨HT.out g2 (by omega), fun hm => by have := HOW.out.lt hm; omega⟩, h2⟩ (hsl.keep o) (fun hp ad' e => ?_)
        have h3 := hst hp ad' e
        exact ⟨⟨h3.1, fun hm => by have := HBG.out _ hm; omega⟩, fun hm => by have := HBS.out _ hm; omega⟩
      have HASlt := Lib.hid (fun x hx => HMO.out.lt (k := x) hx)
      clear hp
      obtain ⟨m, hm⟩ : ∃ m, l[k] = m := ⟨_, rfl⟩
      rw [hm] at m0 m1 m2 m3 cU HG HST HMS
      clear hm hsl hst hadS
      obtain ⟨u, f, d, y⟩ := m
      simp only at m0 m1 m2 m3 cU HG HST HMS
      generalize y.length = z at m3 HMS
      have HTN : Hid (∀ W, Only [] wr W → ∀ y, W.heap.size ≤ y → (S y ∧ y ≠ w.heap.size ∧ y ≠ w.heap.size + 1) ∧ y ∉ blks Ag) := fun W o y hy => ⟨HT.out y (by have := O.size; have := o.size; omega), fun hm => by have := HOW.out.lt hm; have := o.size; omega⟩
      have hO1 : Only [] wr (wr.alloc (.cells #[.int .i64 u, .int .i64 f, .int .i64 d, .slice Ab z cb] 82)) := (Only.refl [] wr).alloc _
      have b3 := Bk.new (wr.alloc (.cells #[.int .i64 u, .int .i64 f, .int .i64 d, .slice Ab z cb] 82)) 3 #[.int .i64 u]
      have b4 := Bk.new (wr.alloc (.cells #[.int .i64 u, .int .i64 f, .int .i64 d, .slice Ab z cb] 82)) 82 #[.int .i64 u, .int .i64 f, .int .i64 d, .slice Ab z cb]
      rw [World.size_alloc] at b3 b4
      have HB3 := Lib.hid b3
      have HB4 := Lib.hid b4
      clear b3 b4
      cases p
      · go_wp2_with (first
          | (refine wpList_append_ms rfl _ _ rfl As ns cs (stayL us (l.take k)) rfl ((HMO.out.keep hO1).keep ((Only.refl [] _).alloc _)) _ 1 1 [⟨u, f, d, y⟩] rfl (HMS.out _ _ (by omega) (fun hm => by have := HASlt.out _ hm; omega) (hO1.alloc _) HB4.out) (HTN.out _ (hO1.alloc _)) (by omega) (ns + 1) rfl ?_; intro As' cs' w3 M3 O3 B3)
          | (go_at_call 147; with_reducible refine (cU.out _ (O.then hO1)).mono ?_; rintro e w2 ⟨rfl, rfl⟩))
        go_roundw
        case rel => exact ⟨k + 1, by go_num, by omega, HST.out (by trivial) _ w3 As' cs' (hO1.alloc _) O3 M3 B3⟩
        case measure => simp [intOf]; omega
      · go_wp2_with (first
          | (refine wpList_append_sl rfl _ _ 26 rfl 3 i0 (.int .i64 0) 8 Tryz.underlying26 hi hz0 hz1 hz2 rfl Ag ng cg (ivs (goneL us (l.take k))) rfl ((HOW.out.keep hO1).alloc _) _ 1 1 [.int .i64 u] rfl (Sl.of_bk HB3.out) (by intro q hq; simp at hq; subst hq; rfl) (by unfold maxLen; omega) (by omega) ?_; intro Ag' cg' w3 V3 O3 B3)
          | (go_at_call 147; with_reducible refine (cU.out _ (O.then hO1)).mono ?_; rintro e w2 ⟨rfl, rfl⟩))
        go_roundw
        case rel => exact ⟨k + 1, by go_num, by omega, HG.out (by trivial) _ w3 Ag' cg' (hO1.alloc _) O3 V3 B3⟩
        case measure => simp [intOf]; omega
    · obtain rfl : k = n := by omega
      have hsg : stayL us (l.take k) = stayL us l ∧ goneL us (l.take k) = goneL us l := by rw [List.take_of_length_le (by rw [HL.out]; exact Nat.le_refl _)]; exact ⟨rfl, rfl⟩
      have hb'' := HB'.out
      unfold expB at hb''
      simp only at hb''
      rw [hsg.1] at HMO
      rw [hsg.2, HGL.out] at HOW
      have HMG := Lib.hid (messages_any (c := cs) HMO.out.ms (by omega) (fun m hm => HBY.out m (List.mem_filter.1 hm).1) (fun y hy => ⟨HT.out y (by have := O.size; omega), fun hm => by have := HOW.out.lt hm; omega⟩))
      have HG1 := HB1.out.only O (by simp)
      have HG2 := HB2.out.only O (by simp)
      have hns2 : (stayL us l).length = ns := HMO.out.len
      have hng2 : gl.length = ng := by simpa using HOW.out.len
      have HNS := Lib.hid hns2
      have HNG := Lib.hid hng2
      have hgw : w.heap.size + 1 < wr.heap.size := Nat.lt_of_lt_of_le hsz O.size
      have hOw := Lib.hid (HO1.out.then O)
      have HBW := Lib.hid (show w.heap.size ≤ w1.heap.size from by omega)
      subst hb''
      clear hsg hns2 hng2 HB'
      go_wp2_with (go_at_call 146; with_reducible refine HMG.out.mono ?_; rintro e w3 ⟨A3, c3, rfl, M3, O3, B3⟩; obtain ⟨k0, k1, k2, k3⟩ := bk_four (HG1.only O3 (by simp)); have kf := (HG1.only O3 (by simp)).free 3; obtain ⟨j0, j1, j2, j3⟩ := bk_four (HG2.only O3 (by simp)); have f0 := (HG2.only O3 (by simp)).free 0; have f1 := (HG2.only O3 (by simp)).free 1; have f2 := (HG2.only O3 (by simp)).free 2; have f3 := (HG2.only O3 (by simp)).free 3)
      refine box_ret (s := 4) (u := 5) ?_ (w.heap.size + 1) ⟨s, v, x, stayL us l⟩ A3 c3 (.slice Ag ng cg) ?_ ?_ ?_ ?_
      · kernel_rfl
      · rfl
      · rfl
      · rw [bxc_eq HNS.out, HTT.out]
        exact bk_store ((HG2.only O3 (by simp)).far (by simp) _) _ _ _ _
      · have ho : Only [w.heap.size] w3 (w3.setCell ⟨w.heap.size, 3, none⟩ (.slice A3 ns c3)) := (Only.refl _ _).setCell (.inl (by simp)) _
        have hbg := HBG.out
        refine ⟨A3, c3, Ag, cg, by rw [HNG.out], ?_, ?_, fun y hy => by have := hbg y hy; have := HBW.out; omega, ?_⟩
        · show Ms S _ A3 (stayL us l).length (stayL us l)
          rw [HNS.out]
          exact ((M3.ms.only ho (fun y hy hm => by simp at hm; exact hy.1.2.1 hm)).store (fun h => h.1.2.2 rfl) _ _ _ _).mono (fun y hy => hy.1.1)
        · rw [HNG.out]
          have h1 := ((HOW.out.keep O3).only ho (fun y hy hm => by simp at hm; have := hbg y hy; omega))
          exact (h1.only (only_store (Only.refl [w.heap.size + 1] _) (.inl (by simp)) _ _ _ _) (fun y hy hm => by simp at hm; have := hbg y hy; omega)).sl
        · exact only_store (((hOw.out.then O3).setCell (.inr (Nat.le_refl _)) _)) (.inr (by omega)) _ _ _ _
end Go.Proofs.YtgnilldcfpgpaaaGreatDoor
namespace Go.Proofs.YtgnilldcfpgpaaaGreatDoor
open Go.RowKit Go.Instr
theorem gives_skip {P : Program} {T : World → World → Prop} {φ : Value → World → Prop} {w w' : World} {r : Result Next} (hr : r = .ok .skip w') (h : φ undef w') (ht : T w w') : GivesR P T w φ r := by
  rw [hr]; exact ⟨h, ht⟩
end Go.Proofs.YtgnilldcfpgpaaaGreatDoor
