/-
  Texts of the seat, laid one behind the other: OpenC DMath Rise SMath VIs3 VMem VHas VAdd.
-/
import Derived.Test.YtgnilldcfpgpaaaGreatDoorY1
import Derived.Test.YtgnilldcfpgpaaaGreatDoorY5
import Derived.Deep.Slices
import Derived.Deep.Fields
import Derived.ChangeSame
import Derived.Lib.SmallJoins
import Derived.WalkKit
import Derived.Lib.Strings
import Derived.Sort.KeysCollected
import Derived.Test.YtgnilldcfpgpaaaGreatDoorY4
import Derived.Lib.SliceRun
import Derived.Deep.RegionLaw
namespace Go.Proofs.YtgnilldcfpgpaaaGreatDoor
open Go.ChangeShapes Go.WideShapes Go.ChangeAt Go.RowKit Go.Deep
section
variable {H : Type} {enc : TypeId × Value → H} {W : World}
theorem bytes_inC {n' : Nat} {v1 : Value} {y1 : DataW H × List MemPlace} (h1' : DataW.trod enc Tryz.prog W 0 (fun _ => true) true n' 27 [v1] = some y1) :
    ∃ (A : Option Addr) (c : Nat) (b : List UInt8), v1 = .slice A b.length c ∧ Sl W A b.length (bvs b) ∧ ∀ R, (∀ m ∈ DataW.weights Tryz.prog 27 y1.1, m ≤ R) → b.length ≤ R := by
  rcases open_ints Tryz.underlying27 Tryz.underlying5 cellsByte h1' with ⟨hv, _⟩ | ⟨a, len, cap, zs, hv, _, hl, hm, hz, hx, hcell, hw⟩
  · simp only [List.cons.injEq, and_true] at hv
    subst hv
    exact ⟨none, 0, [], rfl, Sl.none_, fun R _ => Nat.zero_le _⟩
  · simp only [List.cons.injEq, and_true] at hv
    subst hv
    simp only [if_true] at hz
    have hs : Sl W (some a) len (bvs (toBytes (zs.take len))) := toBytes_sl hl hz hw (fun _ => ⟨a, rfl, fun i hi => hcell i (by omega)⟩)
    have hlen2 : (toBytes (zs.take len)).length = len := by rw [toBytes_length, List.length_take]; omega
    refine ⟨some a, cap, toBytes (zs.take len), by rw [hlen2], by rw [hlen2]; exact hs, fun R h3 => ?_⟩
    rw [hx] at h3
    simp only [DataW.weights, Tryz.underlying27, lits, List.length_map, List.length_take, List.length_drop, bytesByte, hz] at h3
    have := h3 _ List.mem_cons_self
    rw [hlen2]
    omega
theorem bytesIntC : Tryz.prog.bytesOf 3 = 8 := by kernel_rfl
theorem ints_inC {n' : Nat} {v1 : Value} {y1 : DataW H × List MemPlace} (h1' : DataW.trod enc Tryz.prog W 0 (fun _ => true) true n' 26 [v1] = some y1) :
    ∃ (A : Option Addr) (c : Nat) (b : List Int), v1 = .slice A b.length c ∧ Sl W A b.length (ivs b) ∧ ∀ R, (∀ m ∈ DataW.weights Tryz.prog 26 y1.1, m ≤ R) → b.length ≤ R := by
  rcases open_ints Tryz.underlying26 Tryz.underlying3 cellsInt h1' with ⟨hv, _⟩ | ⟨a, len, cap, zs, hv, _, hl, hm, hz, hx, hcell, hw⟩
  · simp only [List.cons.injEq, and_true] at hv
    subst hv
    exact ⟨none, 0, [], rfl, Sl.none_, fun R _ => Nat.zero_le _⟩
  · simp only [List.cons.injEq, and_true] at hv
    subst hv
    simp only [if_true] at hz
    have hlen2 : (zs.take len).length = len := by rw [List.length_take]; omega
    refine ⟨some a, cap, zs.take len, by rw [hlen2], ?_, fun R h3 => ?_⟩
    · rw [hlen2]
      refine ⟨by simp [hlen2], fun _ => ⟨a, rfl, fun j u hu => ?_⟩⟩
      have hj : j < len := by
        have := (List.getElem?_eq_some_iff.1 hu).1
        simpa [hlen2] using this
      rw [hcell j (by omega)]
      have hz' : j < zs.length := by omega
      simp [ivs, hj, hz'] at hu
      rw [← hu]
      simp [List.getD, hz']
    · rw [hx] at h3
      simp only [DataW.weights, Tryz.underlying26, lits, List.length_map, List.length_take, List.length_drop, bytesIntC, hz] at h3
      have := h3 _ List.mem_cons_self
      rw [hlen2]
      omega
theorem oneCh : ∃ f0 f1 f2 f3 f4 f5 f6 f7 f8 f9, Tryz.prog.underlying 29 = some (.struct #[f0, f1, f2, f3, f4, f5, f6, f7, f8, f9]) ∧ f0.type = 3 ∧ f1.type = 9 ∧ f2.type = 9 ∧ f3.type = 9 ∧ f4.type = 9 ∧ f5.type = 26 ∧ f6.type = 3 ∧ f7.type = 3 ∧ f8.type = 3 ∧ f9.type = 27 ∧ oneCellFields Tryz.prog #[f0, f1, f2, f3, f4, f5, f6, f7, f8, f9] = true :=
  ⟨_, _, _, _, _, _, _, _, _, _, Tryz.underlying29, rfl, rfl, rfl, rfl, rfl, rfl, rfl, rfl, rfl, rfl, by kernel_rfl⟩
theorem cellsCh : Tryz.prog.cellsOf 29 = 10 := by kernel_rfl
structure ChW (c : Ch) : Prop where
  k : -9223372036854775808 ≤ c.kind ∧ c.kind ≤ 9223372036854775807
  m : -9223372036854775808 ≤ c.mode ∧ c.mode ≤ 9223372036854775807
  f : -9223372036854775808 ≤ c.flags ∧ c.flags ≤ 9223372036854775807
  d : -9223372036854775808 ≤ c.date ∧ c.date ≤ 9223372036854775807
structure ChB (c : Ch) (R : Nat) : Prop where
  u : c.user.length ≤ R
  p : c.pass.length ≤ R
  x : c.box.length ≤ R
  t : c.to.length ≤ R
  i : c.uids.length ≤ R
  b : c.body.length ≤ R
theorem St_of (s : ByteArray) : St s.data.toList = s := by
  have := St_data s
  exact this
set_option maxRecDepth 100000 in
set_option maxHeartbeats 1000000 in
theorem ch_cells {fuel : Nat} {cs : List Value} {D : DataW H} {Pl : List MemPlace} (hcl : cs.length = 10) (h : DataW.trod enc Tryz.prog W 0 (fun _ => true) true fuel 29 cs = some (D, Pl)) :
    ∃ (c : Ch) (Au : Option Addr) (cu : Nat) (Ab : Option Addr) (cb : Nat), cs = [.int .i64 c.kind, .string (St c.user), .string (St c.pass), .string (St c.box), .string (St c.to), .slice Au c.uids.length cu, .int .i64 c.mode, .int .i64 c.flags, .int .i64 c.date, .slice Ab c.body.length cb] ∧
      Sl W Au c.uids.length (ivs c.uids) ∧ Sl W Ab c.body.length (bvs c.body) ∧ ChW c ∧ ∀ R, (∀ m ∈ DataW.weights Tryz.prog 29 D, m ≤ R) → ChB c R := by
  obtain ⟨f0, f1, f2, f3, f4, f5, f6, f7, f8, f9, hu, t0, t1, t2, t3, t4, t5, t6, t7, t8, t9, hone⟩ := oneCh
  obtain ⟨ys, n', _, hy, hlen, hyl, hf⟩ := DataW.trod_struct hu h
  obtain ⟨o0, k0⟩ := hone_of hone 0 f0 rfl
  obtain ⟨o1, k1⟩ := hone_of hone 1 f1 rfl
  obtain ⟨o2, k2⟩ := hone_of hone 2 f2 rfl
  obtain ⟨o3, k3⟩ := hone_of hone 3 f3 rfl
  obtain ⟨o4, k4⟩ := hone_of hone 4 f4 rfl
  obtain ⟨o5, k5⟩ := hone_of hone 5 f5 rfl
  obtain ⟨o6, k6⟩ := hone_of hone 6 f6 rfl
  obtain ⟨o7, k7⟩ := hone_of hone 7 f7 rfl
  obtain ⟨o8, k8⟩ := hone_of hone 8 f8 rfl
  obtain ⟨o9, k9⟩ := hone_of hone 9 f9 rfl
  match cs, hcl with
  | [v0, v1, v2, v3, v4, v5, v6, v7, v8, v9], _ =>
    have h0 := hf 0 f0 rfl
    have h1 := hf 1 f1 rfl
    have h2 := hf 2 f2 rfl
    have h3 := hf 3 f3 rfl
    have h4 := hf 4 f4 rfl
    have h5 := hf 5 f5 rfl
    have h6 := hf 6 f6 rfl
    have h7 := hf 7 f7 rfl
    have h8 := hf 8 f8 rfl
    have h9 := hf 9 f9 rfl
    rw [o0, k0, t0] at h0
    rw [o1, k1, t1] at h1
    rw [o2, k2, t2] at h2
    rw [o3, k3, t3] at h3
    rw [o4, k4, t4] at h4
    rw [o5, k5, t5] at h5
    rw [o6, k6, t6] at h6
    rw [o7, k7, t7] at h7
    rw [o8, k8, t8] at h8
    rw [o9, k9, t9] at h9
    match ys, hyl with
    | [y0, y1, y2, y3, y4, y5, y6, y7, y8, y9], _ =>
      simp only [Prod.mk.injEq] at hy
      obtain ⟨rfl, _⟩ := hy
      obtain ⟨z0, e0, _, w0⟩ := DataW.trod_int Tryz.underlying3 (show DataW.trod enc Tryz.prog W 0 (fun _ => true) true n' 3 [v0] = some y0 from h0)
      obtain ⟨s1, e1, d1, _⟩ := DataW.trod_string Tryz.underlying9 (show DataW.trod enc Tryz.prog W 0 (fun _ => true) true n' 9 [v1] = some y1 from h1)
      obtain ⟨s2, e2, d2, _⟩ := DataW.trod_string Tryz.underlying9 (show DataW.trod enc Tryz.prog W 0 (fun _ => true) true n' 9 [v2] = some y2 from h2)
      obtain ⟨s3, e3, d3, _⟩ := DataW.trod_string Tryz.underlying9 (show DataW.trod enc Tryz.prog W 0 (fun _ => true) true n' 9 [v3] = some y3 from h3)
      obtain ⟨s4, e4, d4, _⟩ := DataW.trod_string Tryz.underlying9 (show DataW.trod enc Tryz.prog W 0 (fun _ => true) true n' 9 [v4] = some y4 from h4)
      obtain ⟨Au, cu, us, rfl, hsu, hbu⟩ := ints_inC (show DataW.trod enc Tryz.prog W 0 (fun _ => true) true n' 26 [v5] = some y5 from h5)
      obtain ⟨z6, e6, _, w6⟩ := DataW.trod_int Tryz.underlying3 (show DataW.trod enc Tryz.prog W 0 (fun _ => true) true n' 3 [v6] = some y6 from h6)
      obtain ⟨z7, e7, _, w7⟩ := DataW.trod_int Tryz.underlying3 (show DataW.trod enc Tryz.prog W 0 (fun _ => true) true n' 3 [v7] = some y7 from h7)
      obtain ⟨z8, e8, _, w8⟩ := DataW.trod_int Tryz.underlying3 (show DataW.trod enc Tryz.prog W 0 (fun _ => true) true n' 3 [v8] = some y8 from h8)
      obtain ⟨Ab, cb, b, rfl, hsb, hbb⟩ := bytes_inC (show DataW.trod enc Tryz.prog W 0 (fun _ => true) true n' 27 [v9] = some y9 from h9)
      simp only [List.cons.injEq, and_true] at e0 e1 e2 e3 e4 e6 e7 e8
      subst e0 e1 e2 e3 e4 e6 e7 e8
      have hw : ∀ (R : Nat), (∀ m ∈ DataW.weights Tryz.prog 29 (DataW.agg (List.map (fun x => x.fst) [y0, y1, y2, y3, y4, y5, y6, y7, y8, y9])), m ≤ R) →
          (∀ m ∈ DataW.weights Tryz.prog 9 y1.1, m ≤ R) ∧ (∀ m ∈ DataW.weights Tryz.prog 9 y2.1, m ≤ R) ∧ (∀ m ∈ DataW.weights Tryz.prog 9 y3.1, m ≤ R) ∧ (∀ m ∈ DataW.weights Tryz.prog 9 y4.1, m ≤ R) ∧ (∀ m ∈ DataW.weights Tryz.prog 26 y5.1, m ≤ R) ∧ (∀ m ∈ DataW.weights Tryz.prog 27 y9.1, m ≤ R) := by
        intro R hR
        simp only [DataW.weights, hu, List.map_cons, List.map_nil, DataW.weightsEach, t0, t1, t2, t3, t4, t5, t6, t7, t8, t9, List.mem_append] at hR
        exact ⟨fun m hm => hR m (.inr (.inl hm)), fun m hm => hR m (.inr (.inr (.inl hm))), fun m hm => hR m (.inr (.inr (.inr (.inl hm)))), fun m hm => hR m (.inr (.inr (.inr (.inr (.inl hm))))), fun m hm => hR m (.inr (.inr (.inr (.inr (.inr (.inl hm)))))), fun m hm => hR m (.inr (.inr (.inr (.inr (.inr (.inr (.inr (.inr (.inr (.inl hm))))))))))⟩
      have hstr : ∀ (R : Nat) (s : ByteArray) (y : DataW H × List MemPlace), y.1 = .lit (.string s.data.toList) → (∀ m ∈ DataW.weights Tryz.prog 9 y.1, m ≤ R) → s.data.toList.length ≤ R := by
        intro R s y e hm
        rw [e] at hm
        exact hm _ (List.mem_singleton.2 rfl)
      refine ⟨⟨z0, s1.data.toList, s2.data.toList, s3.data.toList, s4.data.toList, us, z6, z7, z8, b⟩, Au, cu, Ab, cb, by simp only [St_of], hsu, hsb, ⟨bounds_i64 w0, bounds_i64 w6, bounds_i64 w7, bounds_i64 w8⟩, fun R hR => ?_⟩
      obtain ⟨g1, g2, g3, g4, g5, g9⟩ := hw R hR
      exact ⟨hstr R s1 y1 (by rw [d1]) g1, hstr R s2 y2 (by rw [d2]) g2, hstr R s3 y3 (by rw [d3]) g3, hstr R s4 y4 (by rw [d4]) g4, hbu R g5, hbb R g9⟩
set_option maxRecDepth 100000 in
theorem open_change {r : Reach} {b : Nat} {v : Value} {d : DataW H} {p : List MemPlace} (hv : Value.okWide Tryz.prog W r b 29 v) (h : DataW.Trod enc Tryz.prog W 0 (fun _ => true) true 29 v d p) :
    ∃ (c : Ch) (Au : Option Addr) (cu : Nat) (Ab : Option Addr) (cb : Nat), v = chv c Au cu Ab cb ∧ Sl W Au c.uids.length (ivs c.uids) ∧ Sl W Ab c.body.length (bvs c.body) ∧ ChW c ∧ ∀ R, (∀ m ∈ DataW.weights Tryz.prog 29 d, m ≤ R) → ChB c R := by
  obtain ⟨cs, rfl, hsz⟩ := okWide_struct Tryz.underlying29 hv
  obtain ⟨fuel, hf⟩ := h
  have hl : cs.toList.length = 10 := by simpa using hsz.trans cellsCh
  obtain ⟨c, Au, cu, Ab, cb, e, hsu, hsb, hw, hb⟩ := ch_cells hl (show DataW.trod enc Tryz.prog W 0 (fun _ => true) true fuel 29 cs.toList = some (d, p) from hf)
  refine ⟨c, Au, cu, Ab, cb, ?_, hsu, hsb, hw, hb⟩
  obtain ⟨l⟩ := cs
  simp only [] at e
  unfold chv
  rw [← e]
end
end Go.Proofs.YtgnilldcfpgpaaaGreatDoor
namespace Go.Proofs.YtgnilldcfpgpaaaGreatDoor
open Go.RowKit
def bef (a b : ByteArray) : Bool := Op.bytesLess a.toList b.toList
theorem less_before : ∀ (a b : List UInt8), Op.bytesLess a b = bytesBefore a b
  | [], [] => rfl
  | [], _ :: _ => rfl
  | _ :: _, [] => rfl
  | x :: a, y :: b => by simp [Op.bytesLess, bytesBefore, less_before a b]
theorem bef_eq (a b : ByteArray) : bef a b = bytesBefore a.data.toList b.data.toList := by
  unfold bef
  rw [less_before, Lib.toList_data, Lib.toList_data]
theorem name_ext {a b : ByteArray} (h : a.data.toList = b.data.toList) : a = b := WideShapes.bytes_inj h
theorem bef_irrefl (a : ByteArray) : bef a a = false := by rw [bef_eq]; exact WideAt.bytes_irrefl _
theorem bef_trans {a b c : ByteArray} (h : bef a b = true) (h' : bef b c = true) : bef a c = true := by
  rw [bef_eq] at *
  exact WideShapes.bytes_trans _ _ _ h h'
theorem bef_total {a b : ByteArray} (h : a ≠ b) : bef a b = true ∨ bef b a = true := by
  rw [bef_eq, bef_eq]
  exact WideAt.bytes_total _ _ (fun e => h (name_ext e))
theorem bef_ne {a b : ByteArray} (h : bef a b = true) : a ≠ b := by
  rintro rfl
  rw [bef_irrefl] at h
  cases h
theorem bef_asymm {a b : ByteArray} (h : bef a b = true) : bef b a = false := by
  cases h' : bef b a
  · rfl
  · have := bef_trans h h'
    rw [bef_irrefl] at this
    cases this
structure Fl where
  name : ByteArray
  data : List UInt8
  lasts : Nat
structure Dst where
  room : Nat
  fs : List Fl
  fuse : Option Nat
def get (fs : List Fl) (s : ByteArray) : Option Fl := fs.find? fun f => decide (f.name = s)
def del (fs : List Fl) (s : ByteArray) : List Fl := fs.filter fun f => !decide (f.name = s)
def ins (f : Fl) : List Fl → List Fl
  | [] => [f]
  | g :: r => if bef f.name g.name then f :: g :: r else g :: ins f r
def upd (fs : List Fl) (s : ByteArray) (h : Fl → Fl) : List Fl := fs.map fun f => if f.name = s then h f else f
def used : List Fl → Nat
  | [] => 0
  | f :: r => f.data.length + used r
def okName (s : ByteArray) : Bool := decide (1 ≤ s.size ∧ s.size ≤ 64)
def errB (S : Dst) (ss : List ByteArray) : Nat := if S.fuse = some 0 then 9 else if ss.all okName then 0 else 1
def tick (S : Dst) : Dst := { S with fuse := S.fuse.map (· - 1) }
def errA (S : Dst) (s : ByteArray) (p : List UInt8) : Nat :=
  if errB S [s] ≠ 0 then errB S [s] else if S.room < used S.fs + p.length ∨ (get S.fs s = none ∧ 4096 ≤ S.fs.length) then 6 else 0
def doA (S : Dst) (s : ByteArray) (p : List UInt8) : Dst :=
  tick { S with fs := match get S.fs s with | none => ins ⟨s, p, 0⟩ S.fs | some _ => upd S.fs s fun f => { f with data := f.data ++ p } }
def appendS (S : Dst) (s : ByteArray) (p : List UInt8) : Dst := if errA S s p = 0 then doA S s p else S
def errF (S : Dst) (s : ByteArray) : Nat := if errB S [s] ≠ 0 then errB S [s] else if get S.fs s = none then 7 else 0
def synced (f : Fl) : Fl := { f with lasts := f.data.length }
def syncS (S : Dst) (s : ByteArray) : Dst := if errF S s = 0 then tick { S with fs := upd S.fs s synced } else S
def removeS (S : Dst) (s : ByteArray) : Dst := if errF S s = 0 then tick { S with fs := del S.fs s } else S
def errT (S : Dst) (s : ByteArray) (n : Int) : Nat :=
  if errF S s ≠ 0 then errF S s else match get S.fs s with | none => 7 | some f => if n < 0 ∨ (f.data.length : Int) < n then 1 else 0
def cutF (n : Nat) (f : Fl) : Fl := { f with data := f.data.take n, lasts := min f.lasts n }
def truncS (S : Dst) (s : ByteArray) (n : Int) : Dst := if errT S s n = 0 then tick { S with fs := upd S.fs s (cutF n.toNat) } else S
def stay (draw : Int) (f : Fl) : Nat := f.lasts + (max draw 0).toNat % (f.data.length - f.lasts + 1)
def crashF (draw : Int) (f : Fl) : Fl := { f with data := f.data.take (stay draw f), lasts := stay draw f }
def crashS (S : Dst) (draw : Int) : Dst := { S with fs := S.fs.map (crashF draw), fuse := none }
def copyS (S : Dst) : Dst := { S with fuse := none }
def readD (S : Dst) (s : ByteArray) : List UInt8 := match get S.fs s with | none => [] | some f => f.data
def readE (S : Dst) (s : ByteArray) : Nat := match get S.fs s with | none => 7 | some _ => 0
def eachE (err : Dst → ByteArray → Nat) (next : Dst → ByteArray → Dst) : Dst → List ByteArray → Nat
  | _, [] => 0
  | S, s :: r => if err S s = 0 then eachE err next (next S s) r else err S s
def eachS (err : Dst → ByteArray → Nat) (next : Dst → ByteArray → Dst) : Dst → List ByteArray → Dst
  | S, [] => S
  | S, s :: r => if err S s = 0 then eachS err next (next S s) r else S
structure Good (fs : List Fl) : Prop where
  rise : fs.Pairwise fun f g => bef f.name g.name = true
  len : fs.length ≤ 4096
  names : ∀ f ∈ fs, f.name.size ≤ 64
  lasts : ∀ f ∈ fs, f.lasts ≤ f.data.length
theorem errB_cases (S : Dst) (ss : List ByteArray) : errB S ss = 0 ∨ errB S ss = 1 ∨ errB S ss = 9 := by
  unfold errB
  split
  · exact .inr (.inr rfl)
  · split
    · exact .inl rfl
    · exact .inr (.inl rfl)
section
variable {fs : List Fl} {s : ByteArray} {f : Fl}
theorem get_some (h : get fs s = some f) : f ∈ fs ∧ f.name = s := ⟨List.mem_of_find?_eq_some h, by have := List.find?_some h; simpa using this⟩
theorem get_none : get fs s = none ↔ ∀ f ∈ fs, f.name ≠ s := by unfold get; simp
theorem rise_ne (h : fs.Pairwise fun f g => bef f.name g.name = true) : fs.Pairwise fun f g => f.name ≠ g.name := h.imp fun h => bef_ne h
theorem used_append : ∀ (a b : List Fl), used (a ++ b) = used a + used b
  | [], b => by simp [used]
  | f :: a, b => by simp only [List.cons_append, used, used_append a b]; omega
theorem used_le (h : f ∈ fs) : f.data.length ≤ used fs := by
  induction fs with
  | nil => cases h
  | cons g r ih =>
    simp only [used]
    rcases List.mem_cons.1 h with rfl | hm
    · omega
    · have := ih hm; omega
theorem used_ins (f : Fl) : ∀ fs : List Fl, used (ins f fs) = f.data.length + used fs
  | [] => rfl
  | g :: r => by
    unfold ins
    split
    · rfl
    · simp only [used, used_ins f r]; omega
theorem mem_ins {g : Fl} : ∀ {fs : List Fl}, g ∈ ins f fs ↔ g = f ∨ g ∈ fs
  | [] => by simp [ins]
  | h :: r => by
    unfold ins
    split
    · simp
    · simp only [List.mem_cons, mem_ins (fs := r)]
      constructor
      · rintro (h | h | h)
        · exact .inr (.inl h)
        · exact .inl h
        · exact .inr (.inr h)
      · rintro (h | h | h)
        · exact .inr (.inl h)
        · exact .inl h
        · exact .inr (.inr h)
theorem length_ins (f : Fl) : ∀ fs : List Fl, (ins f fs).length = fs.length + 1
  | [] => rfl
  | g :: r => by
    unfold ins
    split
    · rfl
    · simp [length_ins f r]
theorem rise_ins : ∀ {fs : List Fl}, fs.Pairwise (fun f g => bef f.name g.name = true) → (∀ g ∈ fs, g.name ≠ f.name) → (ins f fs).Pairwise fun f g => bef f.name g.name = true
  | [], _, _ => by simp [ins]
  | g :: r, h, hn => by
    obtain ⟨h1, h2⟩ := List.pairwise_cons.1 h
    unfold ins
    split
    · rename_i hb
      refine List.pairwise_cons.2 ⟨fun x hx => ?_, h⟩
      rcases List.mem_cons.1 hx with rfl | hx
      · exact hb
      · exact bef_trans hb (h1 x hx)
    · rename_i hb
      refine List.pairwise_cons.2 ⟨fun x hx => ?_, rise_ins h2 fun x hx => hn x (by simp [hx])⟩
      rcases mem_ins.1 hx with rfl | hx
      · rcases bef_total (hn g (by simp)) with h' | h'
        · exact h'
        · exact absurd h' hb
      · exact h1 x hx
theorem mem_del {g : Fl} : g ∈ del fs s ↔ g ∈ fs ∧ g.name ≠ s := by unfold del; simp
theorem used_del (h : fs.Pairwise fun f g => bef f.name g.name = true) (hf : get fs s = some f) : used (del fs s) + f.data.length = used fs := by
  induction fs with
  | nil => cases hf
  | cons g r ih =>
    obtain ⟨h1, h2⟩ := List.pairwise_cons.1 h
    unfold get at hf
    rw [List.find?_cons] at hf
    by_cases e : g.name = s
    · simp only [e, decide_true] at hf
      injection hf with hf
      subst hf
      have hr : del r s = r := by
        unfold del
        rw [List.filter_eq_self]
        intro x hx
        have : x.name ≠ s := by rw [← e]; exact (bef_ne (h1 x hx)).symm
        simp [this]
      have : del (g :: r) s = r := by
        unfold del at hr ⊢
        rw [List.filter_cons]
        simp [e, hr]
      rw [this]
      simp only [used]
      omega
    · simp only [e, decide_false] at hf
      have hd : del (g :: r) s = g :: del r s := by
        unfold del
        rw [List.filter_cons]
        simp [e]
      have := ih h2 hf
      rw [hd]
      simp only [used]
      omega
theorem upd_split {p q : List Fl} (hs : fs = p ++ f :: q) (h : fs.Pairwise fun f g => bef f.name g.name = true) (g : Fl → Fl) : upd fs f.name g = p ++ g f :: q := by
  subst hs
  have hn := rise_ne h
  rw [List.pairwise_append] at hn
  obtain ⟨_, h2, h3⟩ := hn
  obtain ⟨h4, _⟩ := List.pairwise_cons.1 h2
  unfold upd
  rw [List.map_append, List.map_cons, if_pos rfl]
  congr 1
  · conv => rhs; rw [← List.map_id p]
    exact List.map_congr_left fun x hx => if_neg (h3 x hx f (by simp))
  · congr 1
    conv => rhs; rw [← List.map_id q]
    exact List.map_congr_left fun x hx => if_neg (fun e => h4 x hx e.symm)
end
end Go.Proofs.YtgnilldcfpgpaaaGreatDoor
namespace Go.Proofs.YtgnilldcfpgpaaaGreatDoor
section
variable {α β : Type}
def findL (key : α → ByteArray) (l : List α) (s : ByteArray) : Option α := l.find? fun x => decide (key x = s)
def delL (key : α → ByteArray) (l : List α) (s : ByteArray) : List α := l.filter fun x => !decide (key x = s)
def insL (key : α → ByteArray) (x : α) : List α → List α
  | [] => [x]
  | g :: r => if bef (key x) (key g) then x :: g :: r else g :: insL key x r
def putL (key : α → ByteArray) (x : α) (l : List α) : List α := insL key x (delL key l (key x))
def Rise (key : α → ByteArray) (l : List α) : Prop := l.Pairwise fun x y => bef (key x) (key y) = true
variable {key : α → ByteArray} {l : List α} {s : ByteArray} {x y : α}
theorem findL_some (h : findL key l s = some x) : x ∈ l ∧ key x = s := ⟨List.mem_of_find?_eq_some h, by have := List.find?_some h; simpa using this⟩
theorem findL_map (f : α → β) (key' : β → ByteArray) (hf : ∀ x, key' (f x) = key x) (l : List α) (s : ByteArray) : findL key' (l.map f) s = (findL key l s).map f := by
  unfold findL
  rw [List.find?_map]
  congr 1
  have : ((fun x => decide (key' x = s)) ∘ f) = fun x => decide (key x = s) := by funext x; simp [hf]
  rw [this]
theorem delL_map (f : α → β) (key' : β → ByteArray) (hf : ∀ x, key' (f x) = key x) (l : List α) (s : ByteArray) : delL key' (l.map f) s = (delL key l s).map f := by
  unfold delL
  rw [List.filter_map]
  have : ((fun x => !decide (key' x = s)) ∘ f) = fun x => !decide (key x = s) := by funext x; simp [hf]
  rw [this]
theorem insL_map (f : α → β) (key' : β → ByteArray) (hf : ∀ x, key' (f x) = key x) (x : α) : ∀ l : List α, insL key' (f x) (l.map f) = (insL key x l).map f
  | [] => rfl
  | g :: r => by
    unfold insL
    simp only [List.map_cons, hf]
    split
    · rfl
    · rw [List.map_cons, insL_map f key' hf x r]
theorem putL_map (f : α → β) (key' : β → ByteArray) (hf : ∀ x, key' (f x) = key x) (x : α) (l : List α) : putL key' (f x) (l.map f) = (putL key x l).map f := by
  unfold putL
  rw [hf, delL_map f key' hf, insL_map f key' hf]
theorem mem_insL : ∀ {l : List α}, y ∈ insL key x l ↔ y = x ∨ y ∈ l
  | [] => by simp [insL]
  | h :: r => by
    unfold insL
    split
    · simp
    · simp only [List.mem_cons, mem_insL (l := r)]
      constructor
      · rintro (h | h | h)
        · exact .inr (.inl h)
        · exact .inl h
        · exact .inr (.inr h)
      · rintro (h | h | h)
        · exact .inr (.inl h)
        · exact .inl h
        · exact .inr (.inr h)
theorem mem_delL : y ∈ delL key l s ↔ y ∈ l ∧ key y ≠ s := by unfold delL; simp
theorem mem_putL : y ∈ putL key x l ↔ y = x ∨ (y ∈ l ∧ key y ≠ key x) := by unfold putL; rw [mem_insL, mem_delL]
theorem length_delL : (delL key l s).length ≤ l.length := List.length_filter_le _ _
end
end Go.Proofs.YtgnilldcfpgpaaaGreatDoor
namespace Go.Proofs.YtgnilldcfpgpaaaGreatDoor
structure Us where
  name : List UInt8
  pass : List UInt8
  bs : List Bx
structure Stt where
  next : Int
  us : List Us
def bkey (b : Bx) : ByteArray := ⟨b.name.toArray⟩
def ukey (u : Us) : ByteArray := ⟨u.name.toArray⟩
def inboxL : List UInt8 := [105, 110, 98, 111, 120]
def tx (s : List UInt8) : ByteArray := ⟨s.toArray⟩
theorem tx_inj {a b : List UInt8} : tx a = tx b ↔ a = b := by
  constructor
  · intro h
    have := congrArg (fun x : ByteArray => x.data.toList) h
    simpa [tx] using this
  · rintro rfl; rfl
def Us.box (u : Us) (s : List UInt8) : Option Bx := findL bkey u.bs (tx s)
def Stt.user (S : Stt) (s : List UInt8) : Option Us := findL ukey S.us (tx s)
def Us.having (u : Us) (b : Bx) : Us := { u with bs := putL bkey b u.bs }
def Stt.having (S : Stt) (u : Us) : Stt := { S with us := putL ukey u S.us }
def refE (has : Bool) (others : Nat) (next : Int) : Int := if has then 8 else if 4 ≤ others then 6 else if 1048576 ≤ next then 10 else 0
def copyL (ids : List Int) : Bx → List Mg → Int × Bx × Nat
  | to, [] => (0, to, 0)
  | to, m :: r => if hasU ids m.uid then (if addE to m.flags m.date m.body.length = 0 then ((copyL ids (addB to m.flags m.date m.body) r).1, (copyL ids (addB to m.flags m.date m.body) r).2.1, (copyL ids (addB to m.flags m.date m.body) r).2.2 + 1) else (addE to m.flags m.date m.body.length, to, 0)) else copyL ids to r
def actE (u : Us) (b : Bx) (c : Ch) : Int :=
  if c.kind = 3 then (if b.name = inboxL then 11 else 0) else
  if c.kind = 4 then (if b.name = inboxL then 11 else if (u.box c.to).isSome then 8 else 0) else
  if c.kind = 5 then addE b c.flags c.date c.body.length else
  if c.kind = 8 then (match u.box c.to with | none => 7 | some to => (copyL c.uids to b.l).1) else 0
def actU (u : Us) (b : Bx) (c : Ch) : Us :=
  if c.kind = 3 then { u with bs := delL bkey u.bs (tx b.name) } else
  if c.kind = 4 then Us.having { u with bs := delL bkey u.bs (tx b.name) } { b with name := c.to } else
  if c.kind = 5 then u.having (addB b c.flags c.date c.body) else
  if c.kind = 6 then u.having (markB b c.uids c.mode c.flags) else
  if c.kind = 7 then u.having (expB b c.uids) else
  (match u.box c.to with | none => u | some to => u.having (copyL c.uids to b.l).2.1)
def actN (u : Us) (b : Bx) (c : Ch) : Int :=
  if c.kind = 5 then b.next else if c.kind = 6 then (markN c.uids c.mode c.flags b.l : Int) else if c.kind = 7 then ((goneL c.uids b.l).length : Int) else
  if c.kind = 8 then (match u.box c.to with | none => 0 | some to => ((copyL c.uids to b.l).2.2 : Int)) else 0
def Stt.withNew (S : Stt) (u : Us) (s : List UInt8) : Stt := { next := S.next + 1, us := putL ukey (u.having (newB s S.next)) S.us }
def doE (S : Stt) (c : Ch) : Int :=
  if c.kind = 1 then refE (S.user c.user).isSome S.us.length S.next else
  match S.user c.user with
  | none => 7
  | some u => if c.kind = 2 then refE (u.box c.box).isSome u.bs.length S.next else
    match u.box c.box with
    | none => 7
    | some b => actE u b c
def doS (S : Stt) (c : Ch) : Stt :=
  if c.kind = 1 then S.withNew ⟨c.user, c.pass, []⟩ inboxL else
  match S.user c.user with
  | none => S
  | some u => if c.kind = 2 then S.withNew u c.box else
    match u.box c.box with
    | none => S
    | some b => S.having (actU u b c)
def doN (S : Stt) (c : Ch) : Int :=
  if c.kind = 1 then 0 else
  match S.user c.user with
  | none => 0
  | some u => if c.kind = 2 then 0 else
    match u.box c.box with
    | none => 0
    | some b => actN u b c
structure GoodU (u : Us) : Prop where
  name : nameL u.name = true
  pass : passOk u.pass = true
  rise : Rise bkey u.bs
  boxes : ∀ b ∈ u.bs, isB b = true
  inb : (u.box inboxL).isSome = true
  few : u.bs.length ≤ 4
structure GoodS (S : Stt) : Prop where
  next : 1 ≤ S.next ∧ S.next ≤ 1048576
  rise : Rise ukey S.us
  users : ∀ u ∈ S.us, GoodU u
  few : S.us.length ≤ 4
end Go.Proofs.YtgnilldcfpgpaaaGreatDoor
namespace Go.Proofs.YtgnilldcfpgpaaaGreatDoor
open Go.RowKit Go.Instr
theorem bxv_eq {s : List UInt8} {v x : Int} {l : List Mg} {n : Nat} (h : l.length = n) (A : Option Addr) (c : Nat) : bxv ⟨s, v, x, l⟩ A c = .agg #[.string (St s), .int .i64 v, .int .i64 x, .slice A n c] := by
  subst h
  rfl
theorem bk_four {w : World} {g : Nat} {t : TypeId} {a0 a1 a2 a3 : Value} (h : Bk w g t #[a0, a1, a2, a3]) : w.cell? ⟨g, 0, none⟩ = some a0 ∧ w.cell? ⟨g, 1, none⟩ = some a1 ∧ w.cell? ⟨g, 2, none⟩ = some a2 ∧ w.cell? ⟨g, 3, none⟩ = some a3 :=
  ⟨by rw [h.cell]; rfl, by rw [h.cell]; rfl, by rw [h.cell]; rfl, by rw [h.cell]; rfl⟩
end Go.Proofs.YtgnilldcfpgpaaaGreatDoor
namespace Go.Proofs.YtgnilldcfpgpaaaGreatDoor
open Go.RowKit Go.Instr
set_option maxRecDepth 100000 in
theorem Clone_any {S : Nat → Prop} {w : World} {A : Option Addr} {n c : Nat} {l : List Mg} (h : Ms S w A n l) (hn : n ≤ 1000000000) (hS : ∀ x, w.heap.size ≤ x → S x) :
    Calls Tryz.prog 192 #[.slice A n c] w fun e w' => ∃ A' c', e = .returned (.slice A' n c') ∧ Mo S w' A' n c' l ∧ Only [] w w' ∧ ∀ k ∈ blks A', w.heap.size ≤ k := by
  cases A with
  | none =>
    have h0 : n = 0 := by
      rcases Nat.eq_zero_or_pos n with h0 | h0
      · exact h0
      · obtain ⟨_, xs, _, h5, _⟩ := h
        obtain ⟨ad, e, _⟩ := h5 h0
        cases e
    subst h0
    obtain rfl : l = [] := List.eq_nil_of_length_eq_zero h.len
    have hnil : ∀ W, (binOp .eql 69 (.slice none 0 c) (.slice none 0 0)).run Tryz.prog W = .ok (.bool true) W := fun W => Lib.run_eql_slice_nil W _ _ _ _ _ _ _ Tryz.underlying69
    go_enter Tryz.func192, Tryz.ntmps192
    go_wp2
    go_ret
    exact ⟨none, 0, rfl, Mo.nil _ _, Only.refl _ _, fun _ hk => nomatch hk⟩
  | some ad =>
    have hnil : ∀ W, (binOp .eql 69 (.slice (some ad) n c) (.slice none 0 0)).run Tryz.prog W = .ok (.bool false) W := fun W => Lib.run_eql_slice_nil W _ _ _ _ _ _ _ Tryz.underlying69
    have h1 := (h.lt.keep ((Only.refl [] w).alloc (.cells #[] 82))).mono (S' := fun x => S x ∧ x ∉ blks (some ⟨w.heap.size, 0, none⟩)) (fun x hx => ⟨hx.1, fun hm => by simp at hm; omega⟩)
    have h2 := Mo.empty w (hS _ (Nat.le_refl _))
    have hO : Only [] w (w.alloc (.cells #[] 82)) := (Only.refl [] w).alloc _
    have hS' : ∀ x, (w.alloc (.cells #[] 82)).heap.size ≤ x → S x := fun x hx => hS x (by simp at hx; omega)
    go_enter Tryz.func192, Tryz.ntmps192
    go_wp2_with (refine wpList_append_ms rfl _ _ rfl _ 0 0 [] rfl h2 (some ad) n c l rfl h1 hS' (by omega) n (by omega) ?_; intro A' c' w' M1 O1 B1)
    go_ret
    refine ⟨A', c', rfl, M1, ⟨O1.os, O1.tape, O1.output, Nat.le_trans (by simp) O1.size, fun k hk _ => (O1.block k (by simp; omega) (fun hm => by simp at hm; omega)).trans (hO.block k hk (fun hm => nomatch hm))⟩, fun k hk => ?_⟩
    rcases B1 k hk with h4 | h4
    · simp at h4; omega
    · simp at h4; omega
theorem join_as (w : World) (A : Option Addr) (c m : Nat) (q : List UInt8) (hlen : q.length = m) (hs : Sl w A m (bvs q)) (hm : m ≤ 1000000000000) :
    Calls Tryz.prog 137 #[.slice (some ⟨w.heap.size, 0, none⟩) 1 1] (w.alloc (.cells #[.slice A m c] 27)) fun e w' => ∃ P cp, e = .returned (.slice P m cp) ∧ Own w' 5 P m cp (bvs q) ∧ Only [] w w' ∧ ∀ k ∈ blks P, w.heap.size ≤ k := by
  refine (join_one w A c m q hlen hs hm).mono fun e w' hh => ?_
  obtain ⟨⟨P, cp, he, hv, ho, hb⟩, _⟩ := hh
  rw [hlen] at he hv
  exact ⟨P, cp, he, hv, ho, hb⟩
set_option maxRecDepth 100000 in
set_option maxHeartbeats 2000000 in
theorem messages_any {S : Nat → Prop} {w : World} {A : Option Addr} {n c : Nat} {l : List Mg} (h : Ms S w A n l) (hn : n ≤ 1000000) (hb : ∀ m ∈ l, m.body.length ≤ 1000000) (hS : ∀ x, w.heap.size ≤ x → S x) :
    Calls Tryz.prog 146 #[.slice A n c] w fun e w' => ∃ A' c', e = .returned (.slice A' n c') ∧ Mo S w' A' n c' l ∧ Only [] w w' ∧ ∀ k ∈ blks A', w.heap.size ≤ k := by
  have HC := Lib.hid (Clone_any (c := c) h (by omega) hS)
  have HL := Lib.hid h.len
  have HB := Lib.hid hb
  have HS := Lib.hid hS
  clear h hb hS
  go_enter Tryz.func146, Tryz.ntmps146
  go_wp2_with (go_at_call 192; with_reducible refine HC.out.mono ?_; rintro e w1 ⟨A', c', rfl, M1, O1, B1⟩)
  have HM := Lib.hid M1
  have HB1 := Lib.hid B1
  clear M1 HC B1
  go_loopw [9] (fun iv wr => Only [] w wr ∧ w1.heap.size ≤ wr.heap.size ∧ ∃ k : Nat, iv = .int .i64 (k : Int) ∧ k ≤ n ∧ Hid (Mo S wr A' n c' l)) (fun iv _ => n - (intOf iv).toNat)
  case atStart => exact ⟨O1, Nat.le_refl _, 0, rfl, Nat.zero_le _, HM.out⟩
  case round =>
    obtain ⟨hO, hsz, k, rfl, hk, HK⟩ := hrel
    by_cases hlt : k < n
    · have hlt' : (k : Int) < (n : Int) := by omega
      have hkl : k < l.length := by rw [HL.out]; exact hlt
      obtain ⟨g, hA⟩ := HK.out.form (by omega)
      obtain ⟨ad, hA2⟩ : ∃ ad, A' = some ad := ⟨_, hA⟩
      have hadg : ad = ⟨g, 0, none⟩ := by rw [hA] at hA2; injection hA2 with h; exact h.symm
      subst hA2
      obtain ⟨Ab, cb, hm, hf0, hf1, hf3⟩ := HK.out.apart rfl hkl
      have hadlt : ad.block < wr.heap.size := HK.out.lt (by simp)
      have hadw : w.heap.size ≤ ad.block := HB1.out _ (by simp)
      obtain ⟨m0, m1, m2, m3, hsl, hst⟩ := hm
      have hby := HB.out _ (List.getElem_mem hkl)
      have HSB := Lib.hid (fun (W : World) (o : Only [] wr W) (P : Option Addr) (cp : Nat) (hs : Sl W P l[k].body.length (bvs l[k].body)) (hP : 0 < l[k].body.length → ∀ a, P = some a → S a.block ∧ a.block ≠ ad.block) => (HK.out.keep o).setBody rfl hkl P cp hs hP)
      obtain ⟨m, hm⟩ : ∃ m, l[k] = m := ⟨_, rfl⟩
      rw [hm] at m0 m1 m2 m3 hsl hst HSB hby
      clear hm
      obtain ⟨u, f, d, y⟩ := m
      simp only at m0 m1 m2 m3 hsl hst HSB hby
      obtain ⟨z, hz⟩ : ∃ z, y.length = z := ⟨_, rfl⟩
      rw [hz] at m3 hsl HSB hby
      have hO1 : Only [] wr (wr.alloc (.cells #[.int .i64 u, .int .i64 f, .int .i64 d, .slice Ab z cb] 82)) := (Only.refl [] wr).alloc _
      have hj := (join_as (wr.alloc (.cells #[.int .i64 u, .int .i64 f, .int .i64 d, .slice Ab z cb] 82)) Ab cb z y hz (hsl.keep hO1) (by omega))
      rw [World.size_alloc] at hj
      have HJ := Lib.hid hj
      clear hj
      clear hz hsl hst hadg hA
      have hadb : (ad.add (k * 4)).block < wr.heap.size := by rw [add_block]; exact hadlt
      go_wp2_with (go_at_call 137; with_reducible refine HJ.out.mono ?_; rintro e w3 ⟨P, cp, rfl, HV, HO3, HB3⟩; have hO3 := hO1.then HO3; have hf3' := (hO3.frozen (p := ⟨(ad.add (k * 4)).block, (ad.add (k * 4)).off + 3, none⟩) hadb (by simp)).trans hf3; have hfree : (ad.add (k * 4)).block < w3.heap.size := Nat.lt_of_lt_of_le hadb hO3.size; have hc3 := hO3.cellSome m3 (by simp))
      go_roundw
      case rel =>
        refine ⟨(hO.then hO3).setCell (.inr (by show w.heap.size ≤ (ad.add (k * 4)).block; rw [add_block]; exact hadw)) _, by have := hO3.size; simp [World.setCell]; omega, k + 1, by go_num, by omega, ?_⟩
        exact HSB.out w3 hO3 P cp HV.sl (fun _ a e => by
          subst e
          have := HB3 a.block (by simp)
          exact ⟨HS.out _ (by omega), by omega⟩)
      case measure => simp [intOf]; omega
    · obtain rfl : k = n := by omega
      go_wp2
      go_ret
      exact ⟨A', c', rfl, HK.out, hO, HB1.out⟩
end Go.Proofs.YtgnilldcfpgpaaaGreatDoor
namespace Go.Proofs.YtgnilldcfpgpaaaGreatDoor
open Go.RowKit Go.Instr
theorem has_hit {us : List Int} {u : Int} {k : Nat} (h : k < us.length) (he : us[k] = u) : hasU us u = true := by
  unfold hasU
  exact List.contains_iff_mem.2 (he ▸ List.getElem_mem h)
theorem has_none {us : List Int} {u : Int} (h : ∀ j (hj : j < us.length), us[j] ≠ u) : hasU us u = false := by
  rw [Bool.eq_false_iff]
  intro e
  obtain ⟨j, hj, he⟩ := List.mem_iff_getElem.1 (List.contains_iff_mem.1 e)
  exact h j hj he
theorem Sl.int_at {w : World} {A : Option Addr} {n : Nat} {us : List Int} (h : Sl w A n (ivs us)) {k : Nat} (hk : k < n) (hk' : k < us.length) : ∃ ad, A = some ad ∧ w.cell? (ad.add k) = some (.int .i64 us[k]) := by
  obtain ⟨ad, u, e, hu, hc⟩ := h.at_ hk
  rw [ivs_get _ _ hk'] at hu
  injection hu with hu
  subst hu
  exact ⟨ad, e, hc⟩
set_option maxRecDepth 100000 in
theorem Index_any {w : World} {A : Option Addr} {n c : Nat} {us : List Int} (hs : Sl w A n (ivs us)) (hn : n ≤ 140737488355328) (u : Int) :
    Calls Tryz.prog 193 #[.slice A n c, .int .i64 u] w fun e w' => ∃ I : Int, e = .returned (.int .i64 I) ∧ Hid (decide (0 ≤ I) = hasU us u) ∧ w = w' := by
  have HS := Lib.hid hs
  have HL : Hid (us.length = n) := by show _ = _; simpa using hs.len
  clear hs
  go_enter Tryz.func193, Tryz.ntmps193
  go_wp2
  go_loop [8] (fun iv => ∃ k : Nat, iv = .int .i64 (k : Int) ∧ k ≤ n ∧ Hid (∀ j (hj : j < us.length), j < k → us[j] ≠ u)) (fun iv => n - (intOf iv).toNat)
  case atStart => exact ⟨0, rfl, Nat.zero_le _, fun j hj h => absurd h (by omega)⟩
  case round =>
    obtain ⟨k, rfl, hk, HK⟩ := hrel
    by_cases hlt : k < n
    · have hlt' : (k : Int) < (n : Int) := by omega
      have hkl : k < us.length := by rw [HL.out]; exact hlt
      obtain ⟨ad, rfl, hc⟩ := HS.out.int_at hlt hkl
      by_cases hx : us[k] = u
      · have HE : Hid (decide ((0 : Int) ≤ (k : Int)) = hasU us u) := by show _ = _; rw [has_hit hkl hx]; exact decide_eq_true (by omega)
        rw [hx] at hc
        clear hx
        go_wp2
        go_ret
        exact ⟨k, rfl, HE.out, rfl⟩
      · have hx2 : (u == us[k]) = false := beq_eq_false_iff_ne.2 (fun e => hx e.symm)
        have HR : Hid (∀ j (hj : j < us.length), j < k + 1 → us[j] ≠ u) := fun j hj h => by
          rcases Nat.lt_or_ge j k with h1 | h1
          · exact HK.out j hj h1
          · obtain rfl : j = k := by omega
            exact hx
        clear hx
        generalize us[k] = y at hc hx2
        go_wp2
        go_round
        case rel => exact ⟨k + 1, by go_num, by omega, HR⟩
        case measure => simp [intOf]; omega
    · obtain rfl : k = n := by omega
      have HE : Hid (decide ((0 : Int) ≤ -1) = hasU us u) := by show _ = _; rw [has_none fun j hj => HK.out j hj (by rw [← HL.out]; exact hj)]; rfl
      go_wp2
      go_ret
      exact ⟨-1, rfl, HE.out, rfl⟩
theorem Contains_any {w : World} {A : Option Addr} {n c : Nat} {us : List Int} (hs : Sl w A n (ivs us)) (hn : n ≤ 140737488355328) (u : Int) :
    Calls Tryz.prog 147 #[.slice A n c, .int .i64 u] w fun e w' => e = .returned (.bool (hasU us u)) ∧ w = w' := by
  have hI := Index_any (c := c) hs hn u
  clear hs
  go_enter Tryz.func147, Tryz.ntmps147
  go_wp2_with (go_at_call 193; with_reducible refine hI.mono ?_; rintro e w2 ⟨I, rfl, HI, rfl⟩)
  go_ret
  exact ⟨by rw [← HI.out]; rfl, rfl⟩
end Go.Proofs.YtgnilldcfpgpaaaGreatDoor
namespace Go.Proofs.YtgnilldcfpgpaaaGreatDoor
open Go.RowKit Go.Instr
theorem step_append_ms {ops : Array Oper} {o : Oper} {a : Act} {w : World} {K : Act → World → Prop} {Q : Exit → Act → World → Prop} {E : Prop} (hgd : o.guard = none) (s x : Operand)
    (ho : o.op = .call { callee := .builtin .append, args := #[s, x], argTypes := #[69, 69] }) {S : Nat → Prop} (A : Option Addr) (n c : Nat) (l : List Mg) (hs : a.eval s = .slice A n c) (h : Mo S w A n c l)
    (A2 : Option Addr) (m c2 : Nat) (r : List Mg) (hx : a.eval x = .slice A2 m c2) (h2 : Ms (fun x => S x ∧ x ∉ blks A) w A2 m r) (hS : ∀ x, w.heap.size ≤ x → S x) (hn : n + m ≤ 1000000000000) (q : Nat) (hq : n + m = q)
    (hK : ∀ A' c' w', Mo S w' A' q c' (l ++ r) → Only (blks A) w w' → (∀ k ∈ blks A', k ∈ blks A ∨ w.heap.size ≤ k) → K (a.put o.dst (.slice A' q c')) w') :
    if Region.wanted o (yielded ops a.tmps) = true then Oper.wp Tryz.prog o a w K Q else E := by
  subst hq
  have hw : Region.wanted o (yielded ops a.tmps) = true := by simp [Region.wanted, hgd]
  rw [if_pos hw]
  obtain ⟨A', c', w', hrun, k1, k2, k3⟩ := run_append_ms o.type A n c l h A2 m c2 r h2 hS hn
  unfold Oper.wp execOp
  simp only [ho, resolve, invoke, builtin, Sem.run_bind, Sem.run_pure, Result.andThen_ok, List.map_toArray, List.map_cons, List.map_nil, hs, hx, hrun]
  exact hK _ _ _ k1 k2 k3
set_option maxRecDepth 100000 in
theorem refusal_any {w : World} (b : Bx) {A : Option Addr} {c : Nat} (f d : Int) (P : Option Addr) (m cp : Nat) :
    Calls Tryz.prog 199 #[bxv b A c, .int .i64 f, .int .i64 d, .slice P m cp] w fun e w' => e = .returned (.int .i64 (addE b f d m)) ∧ Only [] w w' := by
  obtain ⟨s, v, x, l⟩ := b
  obtain ⟨n, hl⟩ : ∃ n, l.length = n := ⟨_, rfl⟩
  rw [bxv_eq hl]
  obtain ⟨q, hq⟩ : ∃ q, addE ⟨s, v, x, l⟩ f d m = q := ⟨_, rfl⟩
  rw [hq]
  have hq' : q = if markOk f d = false then 1 else if 1200 < m then 5 else if 24 ≤ n then 6 else if 1048576 ≤ x then 10 else 0 := by rw [← hq]; unfold addE; simp only; rw [hl]
  have cM := fun W => mayMark_any f d W
  have hO0 : Only [] w (w.alloc (.cells #[.string (St s), .int .i64 v, .int .i64 x, .slice A n c] 71)) := (Only.refl _ _).alloc _
  clear hq hl
  generalize markOk f d = p at *
  generalize St s = t at *
  cases p
  · have HQ := Lib.hid hq'
    clear hq'
    go_enter Tryz.func199, Tryz.ntmps199
    go_wp2_with (go_at_call 228; with_reducible refine (cM _).mono ?_; rintro e w3 ⟨rfl, rfl⟩)
    go_ret
    exact ⟨by rw [HQ.out]; rfl, hO0⟩
  · rw [if_neg (by simp)] at hq'
    by_cases h1 : 1200 < m
    · rw [if_pos h1] at hq'
      have i1 : (1200 : Int) < (m : Int) := by omega
      have HQ := Lib.hid hq'
      clear hq' h1
      go_enter Tryz.func199, Tryz.ntmps199
      go_wp2_with (go_at_call 228; with_reducible refine (cM _).mono ?_; rintro e w3 ⟨rfl, rfl⟩)
      go_ret
      exact ⟨by rw [HQ.out]; rfl, hO0⟩
    · rw [if_neg h1] at hq'
      have i1 : ¬ (1200 : Int) < (m : Int) := by omega
      by_cases h2 : 24 ≤ n
      · rw [if_pos h2] at hq'
        have i2 : (24 : Int) ≤ (n : Int) := by omega
        have HQ := Lib.hid hq'
        clear hq' h1 h2
        go_enter Tryz.func199, Tryz.ntmps199
        go_wp2_with (go_at_call 228; with_reducible refine (cM _).mono ?_; rintro e w3 ⟨rfl, rfl⟩)
        go_ret
        exact ⟨by rw [HQ.out]; rfl, hO0⟩
      · rw [if_neg h2] at hq'
        have i2 : ¬ (24 : Int) ≤ (n : Int) := by omega
        by_cases h3 : 1048576 ≤ x
        · rw [if_pos h3] at hq'
          have HQ := Lib.hid hq'
          clear hq' h1 h2
          go_enter Tryz.func199, Tryz.ntmps199
          go_wp2_with (go_at_call 228; with_reducible refine (cM _).mono ?_; rintro e w3 ⟨rfl, rfl⟩)
          go_ret
          exact ⟨by rw [HQ.out]; rfl, hO0⟩
        · rw [if_neg h3] at hq'
          have HQ := Lib.hid hq'
          clear hq' h1 h2
          go_enter Tryz.func199, Tryz.ntmps199
          go_wp2_with (go_at_call 228; with_reducible refine (cM _).mono ?_; rintro e w3 ⟨rfl, rfl⟩)
          go_ret
          exact ⟨by rw [HQ.out]; rfl, hO0⟩
theorem bk_store {w : World} {g : Nat} {t : TypeId} {a0 a1 a2 a3 : Value} (h : Bk w g t #[a0, a1, a2, a3]) (b0 b1 b2 b3 : Value) :
    Bk ((((w.setCell ⟨g, 0, none⟩ b0).setCell ⟨g, 1, none⟩ b1).setCell ⟨g, 2, none⟩ b2).setCell ⟨g, 3, none⟩ b3) g t #[b0, b1, b2, b3] := by
  simpa using (((h.set 0 b0).set 1 b1).set 2 b2).set 3 b3
theorem only_store {rs : List Nat} {w w' : World} {g : Nat} (o : Only rs w w') (hg : g ∈ rs ∨ w.heap.size ≤ g) (b0 b1 b2 b3 : Value) :
    Only rs w ((((w'.setCell ⟨g, 0, none⟩ b0).setCell ⟨g, 1, none⟩ b1).setCell ⟨g, 2, none⟩ b2).setCell ⟨g, 3, none⟩ b3) :=
  ((((o.setCell (p := ⟨g, 0, none⟩) hg b0).setCell (p := ⟨g, 1, none⟩) hg b1).setCell (p := ⟨g, 2, none⟩) hg b2).setCell (p := ⟨g, 3, none⟩) hg b3)
theorem Ms.store {S : Nat → Prop} {w : World} {A : Option Addr} {n g : Nat} {l : List Mg} (h : Ms S w A n l) (hg : ¬ S g) (b0 b1 b2 b3 : Value) :
    Ms S ((((w.setCell ⟨g, 0, none⟩ b0).setCell ⟨g, 1, none⟩ b1).setCell ⟨g, 2, none⟩ b2).setCell ⟨g, 3, none⟩ b3) A n l :=
  h.only (only_store (Only.refl [g] w) (.inl (by simp)) b0 b1 b2 b3) (fun x hx hm => by simp at hm; subst hm; exact hg hx)
theorem bxc_eq {s : List UInt8} {v x : Int} {l : List Mg} {n : Nat} (h : l.length = n) (A : Option Addr) (c : Nat) : bxc ⟨s, v, x, l⟩ A c = #[.string (St s), .int .i64 v, .int .i64 x, .slice A n c] := by
  subst h
  rfl
theorem add_piece {S : Nat → Prop} {w w3 w4 : World} {A1 A4 : Option Addr} {n m c1 c4 : Nat} {l : List Mg} {x f d : Int} {p : List UInt8} (hM : Mo (fun y => S y ∧ y ≠ w.heap.size ∧ y ≠ w.heap.size + 1) w3 A1 n c1 l) (hO : Only [] w w3) (O4 : Only [] w3 w4) (hp : p.length = m)
    (V4 : Own w4 5 A4 m c4 (bvs p)) (B4 : ∀ k ∈ blks A4, w3.heap.size ≤ k) (hS : ∀ x, w.heap.size ≤ x → S x) (h2 : w.heap.size + 1 < w3.heap.size) :
    Mo (fun y => S y ∧ y ≠ w.heap.size ∧ y ≠ w.heap.size + 1) (w4.alloc (.cells #[.int .i64 x, .int .i64 f, .int .i64 d, .slice A4 m c4] 82)) A1 n c1 l ∧
      Ms (fun y => (S y ∧ y ≠ w.heap.size ∧ y ≠ w.heap.size + 1) ∧ y ∉ blks A1) (w4.alloc (.cells #[.int .i64 x, .int .i64 f, .int .i64 d, .slice A4 m c4] 82)) (some ⟨w4.heap.size, 0, none⟩) 1 [⟨x, f, d, p⟩] ∧
      ∀ y, (w4.alloc (.cells #[.int .i64 x, .int .i64 f, .int .i64 d, .slice A4 m c4] 82)).heap.size ≤ y → S y ∧ y ≠ w.heap.size ∧ y ≠ w.heap.size + 1 := by
  have z1 := hO.size
  have z2 := O4.size
  have hM4 := hM.keep O4
  subst hp
  refine ⟨(hM.keep O4).keep ((Only.refl [] w4).alloc _), Ms.of_bk (Ab := A4) (cb := c4) (t := 82) (Bk.new w4 82 _) ⟨⟨hS _ (by omega), by omega, by omega⟩, fun hm => by have := hM4.lt hm; omega⟩ (V4.sl.alloc _) (fun _ ad e => ?_), fun y hy => ?_⟩
  · subst e
    have h1 := B4 ad.block (by simp)
    exact ⟨⟨hS _ (by omega), by omega, by omega⟩, fun hm => by have := hM.lt hm; omega⟩
  · simp at hy
    exact ⟨hS _ (by omega), by omega, by omega⟩
def Added (S : Nat → Prop) (w : World) (b : Bx) (u : Int) (er : Int) (e : Ending) (w' : World) : Prop :=
  ∃ A' c', e = .returned (.tuple #[bxv b A' c', .int .i64 u, .int .i64 er]) ∧ Ms S w' A' b.l.length b.l ∧ Only [] w w'
set_option maxRecDepth 100000 in
set_option maxHeartbeats 4000000 in
theorem Add_any {S : Nat → Prop} {w : World} (b : Bx) {A : Option Addr} {c : Nat} (h : Ms S w A b.l.length b.l) (hn : b.l.length ≤ 1000000) (hb : ∀ m ∈ b.l, m.body.length ≤ 1000000) (hx : 0 ≤ b.next) (hS : ∀ x, w.heap.size ≤ x → S x) (f d : Int)
    (P : Option Addr) (m cp : Nat) (p : List UInt8) (hp : Sl w P m (bvs p)) :
    Calls Tryz.prog 155 #[bxv b A c, .int .i64 f, .int .i64 d, .slice P m cp] w (Added S w (addB b f d p) (addU b f d p.length) (addE b f d p.length)) := by
  have hpl : p.length = m := by simpa using hp.len
  rw [hpl]
  obtain ⟨s, v, x, l⟩ := b
  obtain ⟨n, hl⟩ : ∃ n, l.length = n := ⟨_, rfl⟩
  have cR := fun (W : World) (A' : Option Addr) (c' : Nat) => refusal_any (w := W) ⟨s, v, x, l⟩ (A := A') (c := c') f d P m cp
  simp only at h hn hb hx
  simp only [bxv_eq hl] at cR ⊢
  rw [hl] at h hn
  obtain ⟨q, hq⟩ : ∃ q, addE ⟨s, v, x, l⟩ f d m = q := ⟨_, rfl⟩
  rw [hq] at cR
  rw [hq]
  obtain ⟨b', hb'⟩ : ∃ b', addB ⟨s, v, x, l⟩ f d p = b' := ⟨_, rfl⟩
  obtain ⟨u', hu'⟩ : ∃ u', addU ⟨s, v, x, l⟩ f d m = u' := ⟨_, rfl⟩
  rw [hb', hu']
  have hO1 : Only [] w ((w.alloc (.cells #[.string (St s), .int .i64 v, .int .i64 x, .slice A n c] 71)).alloc (.cells #[.string ⟨#[]⟩, .int .i64 0, .int .i64 0, .slice none 0 0] 71)) := ((Only.refl _ _).alloc _).alloc _
  have hS1 : ∀ y, ((w.alloc (.cells #[.string (St s), .int .i64 v, .int .i64 x, .slice A n c] 71)).alloc (.cells #[.string ⟨#[]⟩, .int .i64 0, .int .i64 0, .slice none 0 0] 71)).heap.size ≤ y → S y := fun y hy => hS y (by have := hO1.size; omega)
  have b1 := (Bk.new w 71 #[.string (St s), .int .i64 v, .int .i64 x, .slice A n c]).alloc (.cells #[.string ⟨#[]⟩, .int .i64 0, .int .i64 0, .slice none 0 0] 71)
  have b2 := Bk.new (w.alloc (.cells #[.string (St s), .int .i64 v, .int .i64 x, .slice A n c] 71)) 71 #[.string ⟨#[]⟩, .int .i64 0, .int .i64 0, .slice none 0 0]
  rw [World.size_alloc] at b2
  have hT : ∀ y, ((w.alloc (.cells #[.string (St s), .int .i64 v, .int .i64 x, .slice A n c] 71)).alloc (.cells #[.string ⟨#[]⟩, .int .i64 0, .int .i64 0, .slice none 0 0] 71)).heap.size ≤ y → S y ∧ y ≠ w.heap.size ∧ y ≠ w.heap.size + 1 := fun y hy => ⟨hS1 y hy, by simp at hy; omega, by simp at hy; omega⟩
  have HM := Lib.hid (messages_any (c := c) ((h.lt.mono (S' := fun y => S y ∧ y ≠ w.heap.size ∧ y ≠ w.heap.size + 1) (fun y hy => ⟨hy.1, by omega, by omega⟩)).keep hO1) hn hb hT)
  have HB1 := Lib.hid b1
  have HB2 := Lib.hid b2
  have HS := Lib.hid hS
  have HP := Lib.hid hp
  have HO1 := Lib.hid hO1
  have HL := Lib.hid hl
  have HPL := Lib.hid hpl
  have HX := Lib.hid hx
  obtain ⟨t, ht⟩ : ∃ t, St s = t := ⟨_, rfl⟩
  have HT := Lib.hid ht
  rw [ht] at HM HB1 HB2 HO1 cR ⊢
  clear h hb hx hS hp hO1 hS1 hT b1 b2 hl hpl ht
  go_enter Tryz.func155, Tryz.ntmps155
  go_wp2_with (go_at_call 146; with_reducible refine HM.out.mono ?_; rintro e w1 ⟨A1, c1, rfl, M1, O1, B1⟩; obtain ⟨k0, k1, k2, k3⟩ := bk_four (HB1.out.only O1 (by simp)); have kf := (HB1.out.only O1 (by simp)).free 3)
  have hg1 : w.heap.size < w1.heap.size := lt_of_block (HB1.out.only O1 (by simp))
  obtain ⟨w2, hw2⟩ : ∃ w2, w1.setCell ⟨w.heap.size, 3, none⟩ (.slice A1 n c1) = w2 := ⟨_, rfl⟩
  have B1' : Bk w2 w.heap.size 71 #[.string t, .int .i64 v, .int .i64 x, .slice A1 n c1] := by rw [← hw2]; exact (HB1.out.only O1 (by simp)).set 3 _
  have B2' : Bk w2 (w.heap.size + 1) 71 #[.string ⟨#[]⟩, .int .i64 0, .int .i64 0, .slice none 0 0] := by rw [← hw2]; exact (HB2.out.only O1 (by simp)).far (by simp) _
  have M2 : Mo (fun y => S y ∧ y ≠ w.heap.size ∧ y ≠ w.heap.size + 1) w2 A1 n c1 l := by
    rw [← hw2]
    exact M1.only (rs := [w.heap.size]) ((Only.refl _ _).setCell (.inl (by simp)) _) (fun y hy hm => by simp at hm; exact hy.2.1 hm)
  have O2 : Only [] w w2 := by rw [← hw2]; exact ((HO1.out).then O1).setCell (.inr (Nat.le_refl _)) _
  rw [hw2]
  have HA1 : Hid (∀ k ∈ blks A1, w.heap.size ≤ k) := fun k hk => by have := B1 k hk; have := HO1.out.size; omega
  clear hw2 M1 k0 k1 k2 k3 kf HM HB1 HB2 HO1 hg1 O1 B1
  refine (cR _ _ _).mono ?_
  rintro e w3 ⟨rfl, O3⟩
  have hB1 := Lib.hid (B1'.only O3 (by simp))
  have hB2 := Lib.hid (B2'.only O3 (by simp))
  have hM := Lib.hid (M2.keep O3)
  have hO := Lib.hid (O2.then O3)
  obtain ⟨k0, k1, k2, k3⟩ := bk_four hB1.out
  obtain ⟨j0, j1, j2, j3⟩ := bk_four hB2.out
  have f0 := hB2.out.free 0
  have f1 := hB2.out.free 1
  have f2 := hB2.out.free 2
  have f3 := hB2.out.free 3
  clear B1' B2' M2 O2 O3 cR
  by_cases hq0 : q = 0
  · subst hq0
    have e1 : addB ⟨s, v, x, l⟩ f d p = ⟨s, v, x + 1, l ++ [⟨x, f, d, p⟩]⟩ := by unfold addB; rw [HPL.out, hq, if_pos rfl]
    have e2 : addU ⟨s, v, x, l⟩ f d m = x := by unfold addU; rw [hq, if_pos rfl]
    have hlt := hq
    unfold addE at hlt
    simp only [HL.out] at hlt
    have h24 : n < 24 ∧ m ≤ 1200 ∧ x < 1048576 := by
      split at hlt
      · cases hlt
      · split at hlt
        · cases hlt
        · split at hlt
          · cases hlt
          · split at hlt
            · cases hlt
            · omega
    obtain ⟨h24, hm12, hx20⟩ := h24
    have HBX := Lib.hid (hb'.symm.trans e1)
    have HUX := Lib.hid (hu'.symm.trans e2)
    clear hq e1 e2 hlt hn hb' hu'
    have HJ := Lib.hid (fun (W : World) (o : Only [] w W) => join_as W P cp m p HPL.out (HP.out.keep o) (by omega))
    have HAP := Lib.hid (fun (w4 : World) (A4 : Option Addr) (c4 : Nat) (O4 : Only [] w3 w4) (V4 : Own w4 5 A4 m c4 (bvs p)) (B4 : ∀ k ∈ blks A4, w3.heap.size ≤ k) => add_piece (x := x) (f := f) (d := d) hM.out hO.out O4 HPL.out V4 B4 HS.out hB2.out.lt)
    have HMX : Hid (∀ k ∈ blks A1, k ≠ w.heap.size ∧ k ≠ w.heap.size + 1) := fun k hk => (hM.out.2.1 k hk).2
    have HFIN : Hid (∀ (w4 : World) (o : Obj) (w5 : World) (L2 : Option Addr) (c2 : Nat) (y : Value) (z : Int), Only [] w3 w4 → Only (blks A1) (w4.alloc o) w5 → Bk w5 (w.heap.size + 1) 71 #[.string ⟨#[]⟩, .int .i64 0, .int .i64 0, .slice none 0 0] → Mo (fun y => S y ∧ y ≠ w.heap.size ∧ y ≠ w.heap.size + 1) w5 L2 (n + 1) c2 (l ++ [⟨x, f, d, p⟩]) →
        Bk ((((((w5.setCell ⟨w.heap.size, 3, none⟩ y).setCell ⟨w.heap.size, 2, none⟩ (.int .i64 z)).setCell ⟨w.heap.size + 1, 0, none⟩ (.string t)).setCell ⟨w.heap.size + 1, 1, none⟩ (.int .i64 v)).setCell ⟨w.heap.size + 1, 2, none⟩ (.int .i64 (x + 1))).setCell ⟨w.heap.size + 1, 3, none⟩ (.slice L2 (n + 1) c2)) (w.heap.size + 1) 71 (bxc b' L2 c2) ∧
        Added S w b' u' 0 (.returned (.tuple #[bxv b' L2 c2, .int .i64 x, .int .i64 0])) ((((((w5.setCell ⟨w.heap.size, 3, none⟩ y).setCell ⟨w.heap.size, 2, none⟩ (.int .i64 z)).setCell ⟨w.heap.size + 1, 0, none⟩ (.string t)).setCell ⟨w.heap.size + 1, 1, none⟩ (.int .i64 v)).setCell ⟨w.heap.size + 1, 2, none⟩ (.int .i64 (x + 1))).setCell ⟨w.heap.size + 1, 3, none⟩ (.slice L2 (n + 1) c2))) := by
      intro w4 o w5 L2 c2 y z O4 O5 gB2 M5
      have hl1 : (l ++ [(⟨x, f, d, p⟩ : Mg)]).length = n + 1 := by rw [List.length_append, HL.out]; rfl
      refine ⟨?_, L2, c2, by rw [HUX.out], ?_, ?_⟩
      · rw [HBX.out, bxc_eq hl1, HT.out]
        exact bk_store ((gB2.far (by simp) _).far (by simp) _) _ _ _ _
      · rw [HBX.out]
        show Ms S _ L2 (l ++ [(⟨x, f, d, p⟩ : Mg)]).length _
        rw [hl1]
        have h1 := M5.ms.only (rs := [w.heap.size]) (((Only.refl _ _).setCell (p := ⟨w.heap.size, 3, none⟩) (.inl (by simp)) y).setCell (p := ⟨w.heap.size, 2, none⟩) (.inl (by simp)) (.int .i64 z)) (fun k hk hm => by simp at hm; exact hk.2.1 hm)
        exact (h1.store (fun h => h.2.2 rfl) _ _ _ _).mono (fun k hk => hk.1)
      · have hA : ∀ k ∈ blks A1, w.heap.size ≤ k := HA1.out
        refine only_store ((((((hO.out.then O4).alloc o).mono (ss := blks A1) (fun _ h => nomatch h)).trans O5 (fun k hk => .inl hk)).mono (ss := []) (fun k hk => .inr (hA k hk))).setCell (.inr (Nat.le_refl _)) _ |>.setCell (.inr (Nat.le_refl _)) _) (.inr (by omega)) _ _ _ _
    have HX2 := HX.out
    have hg1 : w.heap.size < w3.heap.size := hB1.out.lt
    have fg2 := hB1.out.free 2
    have fg3 := hB1.out.free 3
    go_wp2_with fail
    go_region_law (first
      | (refine step_append_ms rfl (.tmp 29) (.tmp 37) rfl A1 n c1 l (by simp [Act.eval]) (HAP.out w4 A4 c4 O4 V4 B4).1 _ 1 1 [⟨x, f, d, p⟩] (by simp [Act.eval]) (HAP.out w4 A4 c4 O4 V4 B4).2.1 (HAP.out w4 A4 c4 O4 V4 B4).2.2 (by omega) (n + 1) rfl ?_; intro L2 c2 w5 M5 O5 B5; have hgx := fun k hk => HMX.out k hk; have i5 := O5.cellSome i3a (fun hk => (hgx _ hk).1 rfl); have gB := (((hB1.out.only O4 (by simp)).alloc (.cells #[.int .i64 x, .int .i64 f, .int .i64 d, .slice A4 m c4] 82)).only O5 (fun hk => (hgx _ hk).1 rfl)); have fg5 := gB.free 3; have fg52 := gB.free 2; obtain ⟨i50, i51, i52, i53⟩ := bk_four gB; have gB2 := (((hB2.out.only O4 (by simp)).alloc (.cells #[.int .i64 x, .int .i64 f, .int .i64 d, .slice A4 m c4] 82)).only O5 (fun hk => (hgx _ hk).2 rfl)); obtain ⟨j50, j51, j52, j53⟩ := bk_four gB2; have f50 := gB2.free 0; have f51 := gB2.free 1; have f52 := gB2.free 2; have f53 := gB2.free 3; have hfin := fun y z => HFIN.out w4 _ w5 L2 c2 y z O4 O5 gB2 M5; clear gB gB2)
      | (go_simp; go_at_call 137; refine (HJ.out _ hO.out.drew).mono ?_; rintro e w4 ⟨A4, c4, rfl, V4, O4, B4⟩; have O4 : Only [] w3 w4 := ((Only.refl [] w3).drew).then O4; have i3 := O4.cellSome k3 (by simp); have i3a := ((Only.refl [] w4).alloc (.cells #[.int .i64 x, .int .i64 f, .int .i64 d, .slice A4 m c4] 82)).cellSome i3 (by simp)))
    all_goals
      go_wp2_with fail
      refine box_ret2 (s := 8) (u := 9) (v := 10) ?_ (w.heap.size + 1) b' L2 c2 (.int .i64 x) (.int .i64 0) ?_ ?_ ?_ ?_ ?_
      · kernel_rfl
      · rfl
      · rfl
      · rfl
      · exact (hfin _ _).1
      · exact (hfin _ _).2
  · have hne : (q != 0) = true := bne_iff_ne.2 hq0
    have e1 : addB ⟨s, v, x, l⟩ f d p = ⟨s, v, x, l⟩ := by unfold addB; rw [HPL.out, hq, if_neg hq0]
    have e2 : addU ⟨s, v, x, l⟩ f d m = 0 := by unfold addU; rw [hq, if_neg hq0]
    have HBX := Lib.hid (hb'.symm.trans e1)
    have HUX := Lib.hid (hu'.symm.trans e2)
    clear hq e1 e2 hb' hu'
    go_wp2_with fail
    refine box_ret2 (s := 8) (u := 9) (v := 10) (by kernel_rfl) (w.heap.size + 1) ⟨s, v, x, l⟩ A1 c1 (.int .i64 0) (.int .i64 q) rfl rfl rfl ?_ ?_
    · rw [bxc_eq HL.out, HT.out]
      exact bk_store hB2.out _ _ _ _
    · rw [HBX.out, HUX.out]
      refine ⟨A1, c1, rfl, ?_, only_store hO.out (.inr (by omega)) _ _ _ _⟩
      show Ms S _ A1 l.length l
      rw [HL.out]
      exact (hM.out.ms.store (fun h => h.2.2 rfl) _ _ _ _).mono (fun y hy => hy.1)
end Go.Proofs.YtgnilldcfpgpaaaGreatDoor
