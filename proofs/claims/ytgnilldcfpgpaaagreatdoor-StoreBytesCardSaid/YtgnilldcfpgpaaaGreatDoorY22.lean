/-
  Texts of the seat, laid one behind the other: SRef SBegin CallG SDo SKnown SNothing RefReader.
-/
import Derived.Test.YtgnilldcfpgpaaaGreatDoorY21
import Derived.Test.YtgnilldcfpgpaaaGreatDoorY3
import Derived.Test.YtgnilldcfpgpaaaGreatDoorY9
import Derived.Test.YtgnilldcfpgpaaaGreatDoorY11
import Derived.Test.YtgnilldcfpgpaaaGreatDoorY14
import Derived.Test.YtgnilldcfpgpaaaGreatDoorY2
namespace Go.Proofs.YtgnilldcfpgpaaaGreatDoor
open Go.RowKit Go.Maps
section
variable {w w' : World} {x : Nat} {r l : Int}
set_option maxRecDepth 100000 in
theorem refDNew_any (w : World) : Calls Tryz.prog 41 #[.int .i64 268435456] w fun e w' => ∃ x, e = .returned (.tuple #[.pointer (some ⟨x, 0, none⟩), .int .i64 0]) ∧ Bk w' x 115 #[.int .i64 268435456, .slice none 0 0, .int .i64 (-1)] ∧ Only [] w w' ∧ w.heap.size ≤ x := by
  go_enter Tryz.func41, Tryz.ntmps41
  go_wp2
  go_ret2
  exact ⟨w.heap.size, rfl, Bk.new _ _ _, (Only.refl [] w).alloc _, Nat.le_refl _⟩
set_option maxRecDepth 100000 in
theorem refSpot_none (hb : Bk w x 115 #[.int .i64 r, .slice none 0 0, .int .i64 l]) (s : ByteArray) : Calls Tryz.prog 170 #[.pointer (some ⟨x, 0, none⟩), .string s] w fun e w' => e = .returned (.tuple #[.int .i64 0, .bool false]) ∧ Only [] w w' := by
  have c1 : w.cell? ⟨x, 1, none⟩ = some (.slice none 0 0) := hb.cell 1
  have hx := hb.lt
  clear hb
  go_enter Tryz.func170, Tryz.ntmps170
  go_wp2_with fail
  go_loopw [6] (fun iv wr => iv = .int .i64 0 ∧ w = wr) (fun _ _ => 0)
  case atStart => exact ⟨rfl, rfl⟩
  case round =>
    obtain ⟨rfl, rfl⟩ := hrel
    go_wp2_with fail
    apply region_only (by kernel_rfl) (by kernel_rfl)
    apply rel_val (hrf := Tk_refl)
    case hw => rfl
    case hy => intro wS hN hF; skip; first | (go_simp; done) | (go_simp; with_reducible rfl)
    case' hk => skip
    try simp only [Act.put, List.setIfInBounds_toArray, List.set_cons_zero, List.set_cons_succ]
    apply rel_val (hrf := Tk_refl)
    case hw => rfl
    case hy => intro wS hN hF; skip; first | (go_simp; done) | (go_simp; with_reducible rfl)
    case' hk => skip
    try simp only [Act.put, List.setIfInBounds_toArray, List.set_cons_zero, List.set_cons_succ]
    apply rel_val (hrf := Tk_refl)
    case hw => rfl
    case hy => intro wS hN hF; skip; first | (go_simp; done) | (go_simp; with_reducible rfl)
    case' hk => skip
    try simp only [Act.put, List.setIfInBounds_toArray, List.set_cons_zero, List.set_cons_succ]
    apply rel_val (hrf := Tk_refl)
    case hw => rfl
    case hy => intro wS hN hF; skip; first | (go_simp; done) | (go_simp; with_reducible rfl)
    case' hk => skip
    try simp only [Act.put, List.setIfInBounds_toArray, List.set_cons_zero, List.set_cons_succ]
    apply rel_val (hrf := Tk_refl)
    case hw => rfl
    case hy => intro wS hN hF; skip; first | (go_simp; done) | (go_simp; with_reducible rfl)
    case' hk => skip
    try simp only [Act.put, List.setIfInBounds_toArray, List.set_cons_zero, List.set_cons_succ]
    apply rel_val (hrf := Tk_refl)
    case hw => rfl
    case hy => intro wS hN hF; have hO := ((Only.refl [] w).drew).then (hN.pre (by kernel_rfl)); have q1 := hO.cellSome c1 (by simp); first | (go_simp; done) | (go_simp; with_reducible rfl)
    case' hk => skip
    try simp only [Act.put, List.setIfInBounds_toArray, List.set_cons_zero, List.set_cons_succ]
    apply rel_val (hrf := Tk_refl)
    case hw => rfl
    case hy => intro wS hN hF; skip; first | (go_simp; done) | (go_simp; with_reducible rfl)
    case' hk => skip
    try simp only [Act.put, List.setIfInBounds_toArray, List.set_cons_zero, List.set_cons_succ]
    apply rel_val (v := .bool false) (hrf := Tk_refl)
    case hw => rfl
    case hy =>
      intro wS hN hF
      go_simp
    case' hk => skip
    try simp only [Act.put, List.setIfInBounds_toArray, List.set_cons_zero, List.set_cons_succ]
    apply rel_val (v := .bool false) (hrf := Tk_refl)
    case hw => rfl
    case hy =>
      intro wS hN hF
      go_simp
    case' hk => skip
    try simp only [Act.put, List.setIfInBounds_toArray, List.set_cons_zero, List.set_cons_succ]
    apply rel_skip
    case hw => rfl
    case' hk => skip
    try simp only [Act.put, List.setIfInBounds_toArray, List.set_cons_zero, List.set_cons_succ]
    apply rel_skip
    case hw => rfl
    case' hk => skip
    try simp only [Act.put, List.setIfInBounds_toArray, List.set_cons_zero, List.set_cons_succ]
    apply rel_skip
    case hw => rfl
    case' hk => skip
    try simp only [Act.put, List.setIfInBounds_toArray, List.set_cons_zero, List.set_cons_succ]
    apply rel_skip
    case hw => rfl
    case' hk => skip
    try simp only [Act.put, List.setIfInBounds_toArray, List.set_cons_zero, List.set_cons_succ]
    apply rel_skip
    case hw => rfl
    case' hk => skip
    try simp only [Act.put, List.setIfInBounds_toArray, List.set_cons_zero, List.set_cons_succ]
    apply rel_skip
    case hw => rfl
    case' hk => skip
    try simp only [Act.put, List.setIfInBounds_toArray, List.set_cons_zero, List.set_cons_succ]
    apply rel_skip
    case hw => rfl
    case' hk => skip
    try simp only [Act.put, List.setIfInBounds_toArray, List.set_cons_zero, List.set_cons_succ]
    apply rel_skip
    case hw => rfl
    case' hk => skip
    try simp only [Act.put, List.setIfInBounds_toArray, List.set_cons_zero, List.set_cons_succ]
    apply rel_skip
    case hw => rfl
    case' hk => skip
    try simp only [Act.put, List.setIfInBounds_toArray, List.set_cons_zero, List.set_cons_succ]
    apply rel_skip
    case hw => rfl
    case' hk => skip
    try simp only [Act.put, List.setIfInBounds_toArray, List.set_cons_zero, List.set_cons_succ]
    apply rel_val (v := .bool false) (hrf := Tk_refl)
    case hw => rfl
    case hy =>
      intro wS hN hF
      go_simp
    case' hk => skip
    try simp only [Act.put, List.setIfInBounds_toArray, List.set_cons_zero, List.set_cons_succ]
    apply rel_val (hrf := Tk_refl)
    case hw => rfl
    case hy => intro wS hN hF; skip; first | (go_simp; done) | (go_simp; with_reducible rfl)
    case' hk => skip
    try simp only [Act.put, List.setIfInBounds_toArray, List.set_cons_zero, List.set_cons_succ]
    apply rel_val (hrf := Tk_refl)
    case hw => rfl
    case hy => intro wS hN hF; skip; first | (go_simp; done) | (go_simp; with_reducible rfl)
    case' hk => skip
    try simp only [Act.put, List.setIfInBounds_toArray, List.set_cons_zero, List.set_cons_succ]
    refine rel_end ?_
    intro wS hO hF
    go_wp2_with fail
    go_ret2
    exact ⟨rfl, ((Only.refl [] w).drew).then hO.only⟩
set_option maxRecDepth 100000 in
theorem refRead_none (hb : Bk w x 115 #[.int .i64 r, .slice none 0 0, .int .i64 l]) (s : ByteArray) : Calls Tryz.prog 125 #[.pointer (some ⟨x, 0, none⟩), .string s] w fun e w' => e = .returned (.tuple #[.slice none 0 0, .int .i64 7]) ∧ Only [] w w' := by
  have HS := Lib.hid (refSpot_none hb s)
  clear hb
  go_enter Tryz.func125, Tryz.ntmps125
  go_wp2_with (go_at_call 170; refine HS.out.mono ?_; rintro e w1 ⟨rfl, O1⟩)
  go_ret2
  exact ⟨rfl, O1⟩
def RLg (w : World) (g x : Nat) (s : ByteArray) (r l : Int) : Prop := Bk w g 106 #[.pointer (some ⟨x, 0, none⟩), .string s, .int .i64 0, .slice none 0 0, .slice none 0 0, .bool false] ∧ Bk w x 115 #[.int .i64 r, .slice none 0 0, .int .i64 l]
theorem RLg.keep {g : Nat} {s : ByteArray} (h : RLg w g x s r l) (o : Only [] w w') : RLg w' g x s r l := ⟨h.1.only o (by simp), h.2.only o (by simp)⟩
set_option maxRecDepth 100000 in
theorem refHas_none {g : Nat} {p : ByteArray} (h : RLg w g x p r l) (s : ByteArray) : Calls Tryz.prog 117 #[.pointer (some ⟨g, 0, none⟩), .string s] w fun e w' => e = .returned (.bool false) ∧ Only [] w w' := by
  have c0 : w.cell? ⟨g, 0, none⟩ = some (.pointer (some ⟨x, 0, none⟩)) := h.1.cell 0
  have hg := h.1.lt
  have HS := Lib.hid (refRead_none h.2 s)
  clear h
  go_enter Tryz.func117, Tryz.ntmps117
  go_wp2_with (go_at_call 125; refine HS.out.mono ?_; rintro e w1 ⟨rfl, O1⟩)
  go_ret
  exact ⟨rfl, O1⟩
set_option maxRecDepth 100000 in
theorem refImage_none {g : Nat} (h : RLg w g x ⟨#[109, 97, 105, 108]⟩ r l) : Calls Tryz.prog 124 #[.pointer (some ⟨g, 0, none⟩)] w fun e w' => e = .returned (.int .i64 0) ∧ Only [] w w' := by
  have c1 : w.cell? ⟨g, 1, none⟩ = some (.string ⟨#[109, 97, 105, 108]⟩) := h.1.cell 1
  have hg := h.1.lt
  have HS := Lib.hid (fun s => refHas_none h s)
  clear h
  go_enter Tryz.func124, Tryz.ntmps124
  go_wp2_with (go_at_call 117; refine (HS.out _).mono ?_; rintro e w1 ⟨rfl, O1⟩)
  go_ret
  exact ⟨rfl, O1⟩
set_option maxRecDepth 100000 in
theorem refLOpen_none (hb : Bk w x 115 #[.int .i64 r, .slice none 0 0, .int .i64 l]) : Calls Tryz.prog 54 #[.pointer (some ⟨x, 0, none⟩), .string ⟨#[109, 97, 105, 108]⟩] w fun e w' => ∃ g, e = .returned (.tuple #[.pointer (some ⟨g, 0, none⟩), .int .i64 0]) ∧ RLg w' g x ⟨#[109, 97, 105, 108]⟩ r l ∧ Only [] w w' := by
  have oL : Only [] w (w.alloc (.cells #[.pointer (some ⟨x, 0, none⟩), .string ⟨#[109, 97, 105, 108]⟩, .int .i64 0, .slice none 0 0, .slice none 0 0, .bool false] 106)) := (Only.refl [] w).alloc _
  have HL : Hid (RLg (w.alloc (.cells #[.pointer (some ⟨x, 0, none⟩), .string ⟨#[109, 97, 105, 108]⟩, .int .i64 0, .slice none 0 0, .slice none 0 0, .bool false] 106)) w.heap.size x ⟨#[109, 97, 105, 108]⟩ r l) := ⟨Bk.new _ _ _, hb.only oL (by simp)⟩
  have HO := Lib.hid oL
  clear oL hb
  go_enter Tryz.func54, Tryz.ntmps54
  go_wp2_with (first
    | (go_at_call 117; refine (refHas_none HL.out _).mono ?_; rintro e w1 ⟨rfl, O1⟩)
    | (go_at_call 124; refine (refImage_none (HL.out.keep O1)).mono ?_; rintro e w2 ⟨rfl, O2⟩)
    | (go_at_call 125; refine (refRead_none (HL.out.keep (O1.then O2)).2 _).mono ?_; rintro e w3 ⟨rfl, O3⟩))
  go_ret2
  exact ⟨_, rfl, HL.out.keep ((O1.then O2).then O3), HO.out.then ((O1.then O2).then O3)⟩
end
end Go.Proofs.YtgnilldcfpgpaaaGreatDoor
namespace Go.Proofs.YtgnilldcfpgpaaaGreatDoor
open Go.RowKit Go.Maps
section
variable {w w' : World} {x : Nat} {r l : Int}
set_option maxRecDepth 100000 in
theorem refSOpen_none (hb : Bk w x 115 #[.int .i64 r, .slice none 0 0, .int .i64 l]) : Calls Tryz.prog 22 #[.pointer (some ⟨x, 0, none⟩)] w fun e w' => ∃ g q, e = .returned (.tuple #[.pointer (some ⟨q, 0, none⟩), .int .i64 0]) ∧ RLg w' g x ⟨#[109, 97, 105, 108]⟩ r l ∧ Bk w' q 102 #[.slice none 0 0, .int .i64 1, .pointer (some ⟨g, 0, none⟩), .bool false] ∧ Only [] w w' := by
  have HLO := Lib.hid (refLOpen_none hb)
  clear hb
  go_enter Tryz.func22, Tryz.ntmps22
  go_upto_region 4 with (go_at_call 54; refine HLO.out.mono ?_; rintro e w1 ⟨g, rfl, L1, O1⟩)
  have hN := Bk.new w1 102 #[.slice none 0 0, .int .i64 1, .pointer (some ⟨g, 0, none⟩), .bool false]
  have oN : Only [] w1 (w1.alloc (.cells #[.slice none 0 0, .int .i64 1, .pointer (some ⟨g, 0, none⟩), .bool false] 102)) := (Only.refl [] w1).alloc _
  have hL := (L1.keep oN)
  have g2 := hL.1.cell 2
  have g3 := hL.1.cell 3
  have g4 := hL.1.cell 4
  have gl := hL.1.lt
  have HL := Lib.hid hL
  have HN := Lib.hid hN
  have HO := Lib.hid (O1.then oN)
  clear L1 O1 oN hL hN HLO
  go_wp2_with fail
  clear g2 g3 g4 gl
  generalize (w1.alloc (.cells #[.slice none 0 0, .int .i64 1, .pointer (some ⟨g, 0, none⟩), .bool false] 102)) = W3 at HL HN HO ⊢
  have g4 : W3.cell? ⟨g, 4, none⟩ = some (.slice none 0 0) := HL.out.1.cell 4
  have gl := HL.out.1.lt
  go_loopw [7] (fun iv wr => iv = .int .i64 0 ∧ W3 = wr) (fun _ _ => 0)
  case atStart => exact ⟨rfl, rfl⟩
  case round =>
    obtain ⟨rfl, rfl⟩ := hrel
    go_wp2_with fail
    go_ret2
    exact ⟨g, _, rfl, HL.out, HN.out, HO.out⟩
set_option maxRecDepth 100000 in
set_option maxHeartbeats 2000000 in
def Began (w : World) (D : Dst) (e : Ending) (w' : World) : Prop :=
  ∃ q d x g t lg F G rg, e = .returned (.pointer (some ⟨q, 0, none⟩)) ∧ Bk w' q 39 #[.pointer (some ⟨d, 0, none⟩), .pointer (some ⟨x, 0, none⟩), .pointer (some ⟨g, 0, none⟩), .pointer (some ⟨t, 0, none⟩)] ∧
    StoreIs w' g d lg (imgName mailN) (logName mailN) F G D L0 ⟨1, []⟩ none false ∧ RLg w' rg x ⟨#[109, 97, 105, 108]⟩ 268435456 (-1) ∧ Bk w' t 102 #[.slice none 0 0, .int .i64 1, .pointer (some ⟨rg, 0, none⟩), .bool false] ∧
    Only [] w w' ∧ (∀ y ∈ F, w.heap.size ≤ y) ∧ (∀ y ∈ G, w.heap.size ≤ y) ∧ w.heap.size ≤ g ∧ q ∉ F ∧ q ∉ G ∧ q ≠ g
def D0 : Dst := ⟨268435456, [], none⟩
theorem kn_new : opE D0 (imgName mailN) (logName mailN) = 0 ∧ opL D0 (imgName mailN) (logName mailN) = L0 ∧ opS D0 (imgName mailN) (logName mailN) = D0 := ⟨by kernel_rfl, by kernel_rfl, by kernel_rfl⟩
set_option maxRecDepth 100000 in
set_option maxHeartbeats 2000000 in
theorem sbegin_any (ht : Tab w) (hp : 1 < w.heap.size) : Calls Tryz.prog 14 #[] w (Began w D0) := by
  have HNEW := Lib.hid (show ∀ W : World, Calls Tryz.prog 40 #[.int .i64 268435456] W (Made D0 W) from fun W => new_any (w := W) 268435456 (by omega))
  have HOP := Lib.hid (fun (W : World) (d : Nat) (F : List Nat) (D : Disk W d F D0) (t : Tab W) (h : 1 ∉ F) => Open_new D t h kn_new.1 kn_new.2.1)
  rw [kn_new.2.2] at HOP
  have HRS := Lib.hid (fun (W : World) (x : Nat) (h : Bk W x 115 #[.int .i64 268435456, .slice none 0 0, .int .i64 (-1)]) => refSOpen_none h)
  have HT := Lib.hid ht
  have HP := Lib.hid hp
  clear ht hp
  go_enter Tryz.func14, Tryz.ntmps14
  go_wp2_with (first
    | (go_at_call 40; refine (HNEW.out w).mono ?_; clear HNEW; rintro e w1 ⟨d, rfl, D1, O1, hd⟩)
    | (go_at_call 41; refine (refDNew_any w1).mono ?_; rintro e w2 ⟨x, rfl, X2, O2, hx2⟩)
    | (go_at_call 21; refine (HOP.out w2 d [d] (D1.keep O2) (HT.out.keep (O1.then O2)) (fun hm => by have := HP.out; simp at hm; omega)).mono ?_; clear HOP; rintro e w3 ⟨g, lg, F3, G3, rfl, S3, Q3, F3f, G3f, g3f⟩)
    | (go_at_call 22; refine (HRS.out w3 x (X2.only Q3 (by have := D1.lt (x := d) (by simp); simp; omega))).mono ?_; clear HRS; rintro e w4 ⟨rg, t, rfl, R4, T4, O4⟩))
  go_ret
  have hz1 := O1.size
  have hz2 := O2.size
  have hz3 := Q3.size
  have hz4 := O4.size
  have oN : Only [] w4 (w4.alloc (.cells #[.pointer (some ⟨d, 0, none⟩), .pointer (some ⟨x, 0, none⟩), .pointer (some ⟨g, 0, none⟩), .pointer (some ⟨t, 0, none⟩)] 39)) := (Only.refl [] w4).alloc _
  have hF : ∀ y ∈ F3, w.heap.size ≤ y := fun y hy => by
    rcases F3f y hy with h | h
    · have h1 := List.mem_singleton.1 h
      omega
    · omega
  refine ⟨w4.heap.size, d, x, g, t, lg, F3, G3, rg, rfl, Bk.new _ _ _, S3.keep (O4.then oN), R4.keep oN, T4.only oN (by simp), ?_, hF, fun y hy => by have := G3f y hy; omega, by omega, fun h => by have := S3.dk.lt h; omega, fun h => by have := S3.lgr.lt h; omega, by have := S3.bk.lt; omega⟩
  exact (((O1.then O2).trans Q3 (fun y hy => .inr (by have h1 := List.mem_singleton.1 hy; omega))).then O4).then oN
end
end Go.Proofs.YtgnilldcfpgpaaaGreatDoor
namespace Go.Proofs.YtgnilldcfpgpaaaGreatDoor
open Go.RowKit Go.Instr
structure KnOk {X : Type} (Kn : (Nat → Prop) → World → X → Prop) : Prop where
  only : ∀ {C : Nat → Prop} {w w' : World} {x : X} {rs : List Nat}, Kn C w x → Only rs w w' → (∀ y, C y → y ∉ rs) → Kn C w' x
  mono : ∀ {C C' : Nat → Prop} {w : World} {x : X}, Kn C w x → (∀ y, y < w.heap.size → C y → C' y) → Kn C' w x
def CallG {X : Type} (w0 : World) (C0 : Nat → Prop) (Kn : (Nat → Prop) → World → X → Prop) (tup box : X → Value) (cs : X → Array Value) (ty : TypeId) (z : Array Value) (ic im ix ia is : Nat) (L : Nat → Bool) (vs : Nat → Value) (w : World) : Prop :=
  Only [] w0 w ∧ ((L im = true → L ic = true) ∧ (L ix = true → L ic = true) ∧ (L is = true → L ia = true ∧ L ic = true)) ∧
    (L ia = true → ∃ gn, vs ia = ptr2 gn ∧ w0.heap.size ≤ gn ∧ gn < w.heap.size ∧ (L is = false → Bk w gn ty z)) ∧
    (L ic = true → ∃ x, vs ic = tup x ∧ (L im = true → vs im = tup x) ∧ (L ix = true → vs ix = box x) ∧ (L is = true → ∃ gn, vs ia = ptr2 gn ∧ Bk w gn ty (cs x)) ∧
      Kn (fun y => C0 y ∧ y < w.heap.size ∧ (L ia = true → vs ia ≠ ptr2 y)) w x)
section
variable {X : Type} {w0 w w' : World} {C0 : Nat → Prop} {Kn : (Nat → Prop) → World → X → Prop} {tup box : X → Value} {cs : X → Array Value} {ty : TypeId} {z : Array Value} {ic im ix ia is : Nat} {L : Nat → Bool} {vs : Nat → Value}
theorem CallG.start (vs : Nat → Value) : CallG w0 C0 Kn tup box cs ty z ic im ix ia is (fun _ => false) vs w0.drew :=
  ⟨(Only.refl [] w0).drew, ⟨(by simp), (by simp), (by simp)⟩, (by simp), (by simp)⟩
theorem CallG.pure {k : Nat} (h : CallG w0 C0 Kn tup box cs ty z ic im ix ia is L vs w) (hk : ic ≠ k ∧ im ≠ k ∧ ix ≠ k ∧ ia ≠ k ∧ is ≠ k) : CallG w0 C0 Kn tup box cs ty z ic im ix ia is (updN L k true) vs w := by
  obtain ⟨k1, k2, k3, k6, k7⟩ := hk
  unfold CallG at *
  rw [updN_ne _ _ k1, updN_ne _ _ k2, updN_ne _ _ k3, updN_ne _ _ k6, updN_ne _ _ k7]
  exact h
def CallG.cls (C0 : Nat → Prop) (ia : Nat) (L : Nat → Bool) (vs : Nat → Value) (y : Nat) : Prop := C0 y ∧ (L ia = true → vs ia ≠ ptr2 y)
theorem CallG.fresh (h : CallG w0 C0 Kn tup box cs ty z ic im ix ia is L vs w) (hS : ∀ y, w0.heap.size ≤ y → C0 y) : ∀ y, w.heap.size ≤ y → CallG.cls C0 ia L vs y := fun y hy => by
  refine ⟨hS y (by have := h.1.size; omega), fun hl e => ?_⟩
  obtain ⟨gn, e2, _, hlt, _⟩ := h.2.2.1 hl
  rw [e2] at e
  have := ptr2_inj e
  omega
theorem CallG.old (h : CallG w0 C0 Kn tup box cs ty z ic im ix ia is L vs w) {y : Nat} (hy : y < w0.heap.size) (hc : C0 y) : CallG.cls C0 ia L vs y := ⟨hc, fun hl e => by
  obtain ⟨gn, e2, hg, _, _⟩ := h.2.2.1 hl
  rw [e2] at e
  have := ptr2_inj e
  omega⟩
theorem CallG.call (hk : KnOk Kn) (x : X) (h : CallG w0 C0 Kn tup box cs ty z ic im ix ia is L vs w) (hL : L ic = false) (d : im ≠ ic ∧ ix ≠ ic ∧ ia ≠ ic ∧ is ≠ ic) (hK : Kn (CallG.cls C0 ia L vs) w' x) (o : Only [] w w') :
    CallG w0 C0 Kn tup box cs ty z ic im ix ia is (updN L ic true) (updN vs ic (tup x)) w' := by
  obtain ⟨h1, ⟨a1, a2, a5⟩, h5, _⟩ := h
  obtain ⟨d1, d2, d5, d6⟩ := d
  have l1 := no_of a1 hL
  have l2 := no_of a2 hL
  have l5 := no_of (fun e => (a5 e).2) hL
  unfold CallG
  rw [updN_self, updN_self, updN_ne _ _ d1, updN_ne _ _ d2, updN_ne _ _ d5, updN_ne _ _ d6, updN_ne _ _ d1, updN_ne _ _ d2, updN_ne _ _ d5, l1, l2, l5]
  refine ⟨h1.then o, ⟨(fun _ => rfl), (fun _ => rfl), (fun e => by cases e)⟩, fun hl => ?_, fun _ => ⟨x, rfl, (fun e => by cases e), (fun e => by cases e), (fun e => by cases e), ?_⟩⟩
  · obtain ⟨gn, e, hg, hlt, hb⟩ := h5 hl
    exact ⟨gn, e, hg, Nat.lt_of_lt_of_le hlt o.size, fun _ => (hb l5).only o (by simp)⟩
  · exact hk.mono hK fun y hl hy => ⟨hy.1, hl, hy.2⟩
theorem CallG.move (h : CallG w0 C0 Kn tup box cs ty z ic im ix ia is L vs w) (hl : L ic = true) (d : ic ≠ im ∧ ix ≠ im ∧ ia ≠ im ∧ is ≠ im) :
    ∃ x, vs ic = tup x ∧ CallG w0 C0 Kn tup box cs ty z ic im ix ia is (updN L im true) (updN vs im (tup x)) w := by
  obtain ⟨h1, ⟨a1, a2, a5⟩, h5, h6⟩ := h
  obtain ⟨d1, d2, d5, d6⟩ := d
  obtain ⟨x, e, q1, q2, q5, q6⟩ := h6 hl
  refine ⟨x, e, ?_⟩
  unfold CallG
  rw [updN_self, updN_self, updN_ne _ _ d1, updN_ne _ _ d2, updN_ne _ _ d5, updN_ne _ _ d6, updN_ne _ _ d1, updN_ne _ _ d2, updN_ne _ _ d5]
  exact ⟨h1, ⟨fun _ => hl, a2, a5⟩, h5, fun _ => ⟨x, e, fun _ => rfl, q2, q5, q6⟩⟩
theorem CallG.see (h : CallG w0 C0 Kn tup box cs ty z ic im ix ia is L vs w) (hm : L im = true) : ∃ x, vs im = tup x := by
  obtain ⟨x, _, q1, _⟩ := h.2.2.2 (h.2.1.1 hm)
  exact ⟨x, q1 hm⟩
theorem CallG.part (h : CallG w0 C0 Kn tup box cs ty z ic im ix ia is L vs w) (hm : L im = true) (d : ic ≠ ix ∧ im ≠ ix ∧ ia ≠ ix ∧ is ≠ ix) :
    ∃ x, vs im = tup x ∧ CallG w0 C0 Kn tup box cs ty z ic im ix ia is (updN L ix true) (updN vs ix (box x)) w := by
  have hl := h.2.1.1 hm
  obtain ⟨h1, ⟨a1, a2, a5⟩, h5, h6⟩ := h
  obtain ⟨d1, d2, d5, d6⟩ := d
  obtain ⟨x, e, q1, q2, q5, q6⟩ := h6 hl
  refine ⟨x, q1 hm, ?_⟩
  unfold CallG
  rw [updN_self, updN_self, updN_ne _ _ d1, updN_ne _ _ d2, updN_ne _ _ d5, updN_ne _ _ d6, updN_ne _ _ d1, updN_ne _ _ d2, updN_ne _ _ d5]
  exact ⟨h1, ⟨a1, fun _ => hl, a5⟩, h5, fun _ => ⟨x, e, q1, fun _ => rfl, q5, q6⟩⟩
theorem CallG.alloc (hk : KnOk Kn) (h : CallG w0 C0 Kn tup box cs ty z ic im ix ia is L vs w) (hL : L ia = false) (d : ic ≠ ia ∧ im ≠ ia ∧ ix ≠ ia ∧ is ≠ ia) :
    CallG w0 C0 Kn tup box cs ty z ic im ix ia is (updN L ia true) (updN vs ia (ptr2 w.heap.size)) (w.alloc (.cells z ty)) := by
  obtain ⟨h1, ⟨a1, a2, a5⟩, h5, h6⟩ := h
  obtain ⟨d1, d2, d3, d6⟩ := d
  have ls := no_of (fun e => (a5 e).1) hL
  unfold CallG
  rw [updN_self, updN_self, updN_ne _ _ d1, updN_ne _ _ d2, updN_ne _ _ d3, updN_ne _ _ d6, updN_ne _ _ d1, updN_ne _ _ d2, updN_ne _ _ d3, ls]
  refine ⟨h1.alloc _, ⟨a1, a2, fun e => by cases e⟩, fun _ => ⟨w.heap.size, rfl, h1.size, by simp, fun _ => Bk.new w ty z⟩, fun hc => ?_⟩
  obtain ⟨x, e, q1, q2, _, q6⟩ := h6 hc
  refine ⟨x, e, q1, q2, (fun e => by cases e), ?_⟩
  refine hk.mono (hk.only q6 ((Only.refl [] w).alloc _) (fun _ _ hm => nomatch hm)) fun y _ hy => ⟨hy.1, by simp; have := hy.2.1; omega, fun _ e => ?_⟩
  have := ptr2_inj e
  have := hy.2.1
  omega
theorem CallG.store (hk : KnOk Kn) (h : CallG w0 C0 Kn tup box cs ty z ic im ix ia is L vs w) (hL : L is = false) (ha : L ia = true) (hx : L ix = true) (d : ic ≠ is ∧ im ≠ is ∧ ix ≠ is ∧ ia ≠ is) :
    ∃ gn x, vs ia = ptr2 gn ∧ vs ix = box x ∧ Bk w gn ty z ∧ ∀ u w', Only [gn] w w' → Bk w' gn ty (cs x) → CallG w0 C0 Kn tup box cs ty z ic im ix ia is (updN L is true) (updN vs is u) w' := by
  have hl := h.2.1.2.1 hx
  obtain ⟨h1, ⟨a1, a2, a5⟩, h5, h6⟩ := h
  obtain ⟨d1, d2, d3, d6⟩ := d
  obtain ⟨gn, eg, hg, hlt, hb⟩ := h5 ha
  obtain ⟨x, e, q1, q2, _, q6⟩ := h6 hl
  refine ⟨gn, x, eg, q2 hx, hb hL, fun u w' ho hs => ?_⟩
  unfold CallG
  rw [updN_self, updN_ne _ _ d1, updN_ne _ _ d2, updN_ne _ _ d3, updN_ne _ _ d6, updN_ne _ _ d1, updN_ne _ _ d2, updN_ne _ _ d3, updN_ne _ _ d6]
  refine ⟨h1.trans ho (fun q hq => .inr (by simp at hq; omega)), ⟨a1, a2, fun _ => ⟨ha, hl⟩⟩, fun _ => ⟨gn, eg, hg, Nat.lt_of_lt_of_le hlt ho.size, fun q => by cases q⟩, fun hc => ⟨x, e, q1, q2, fun _ => ⟨gn, eg, hs⟩, ?_⟩⟩
  refine hk.mono (hk.only q6 ho fun y hy hm => ?_) fun y _ hy => ⟨hy.1, Nat.lt_of_lt_of_le hy.2.1 ho.size, hy.2.2⟩
  simp at hm
  subst hm
  exact hy.2.2 ha eg
theorem CallG.end_ (hk : KnOk Kn) (h : CallG w0 C0 Kn tup box cs ty z ic im ix ia is L vs w) (hall : L ic = true ∧ L im = true ∧ L ix = true ∧ L ia = true ∧ L is = true) :
    ∃ x gn, vs ic = tup x ∧ vs im = tup x ∧ vs ix = box x ∧ vs ia = ptr2 gn ∧ w0.heap.size ≤ gn ∧ Bk w gn ty (cs x) ∧ Kn (fun y => C0 y ∧ y ≠ gn) w x ∧ Only [] w0 w := by
  obtain ⟨a1, a2, a3, a4, a5⟩ := hall
  obtain ⟨gn, e, hg, _, _⟩ := h.2.2.1 a4
  obtain ⟨x, e1, q1, q2, q5, q6⟩ := h.2.2.2 a1
  obtain ⟨g2, e2, hb⟩ := q5 a5
  rw [e] at e2
  obtain rfl := ptr2_inj e2
  refine ⟨x, gn, e1, q1 a2, q2 a3, e, hg, hb, ?_, h.1⟩
  exact hk.mono q6 fun y _ hy => ⟨hy.1, fun e3 => hy.2.2 a4 (by rw [e, e3])⟩
end
end Go.Proofs.YtgnilldcfpgpaaaGreatDoor
namespace Go.Proofs.YtgnilldcfpgpaaaGreatDoor
open Go.RowKit Go.Maps
def DoR (w : World) (g d lg : Nat) (img log : ByteArray) (F G : List Nat) (D' : Dst) (L' : LS) (S' : Stt) (N : Int) (e : Ending) (w' : World) : Prop :=
  e = .returned (.tuple #[.int .i64 N, .int .i64 0]) ∧ ∃ F' G' mu', StoreIs w' g d lg img log F' G' D' L' S' mu' false ∧ Only (g :: (F ++ G)) w w' ∧ (∀ x ∈ F', x ∈ F ∨ w.heap.size ≤ x) ∧ ∀ x ∈ G', x ∈ G ∨ w.heap.size ≤ x
def tupS (n N : Int) (m : Option Nat) : Value := .tuple #[.agg #[.int .i64 n, .map m], .int .i64 N, .int .i64 0]
def boxS (n : Int) (m : Option Nat) : Value := .agg #[.int .i64 n, .map m]
def csS (n : Int) (m : Option Nat) : Array Value := #[.int .i64 n, .map m]
def KnS (S : Stt) (C : Nat → Prop) (w : World) (m : Option Nat) : Prop := StIs C w m S
theorem knS (S : Stt) : KnOk (KnS S) := ⟨fun h o hd => StIs.only h o hd, fun h hs => StIs.mono h hs⟩
section
variable {w : World} {g d lg : Nat} {img log : ByteArray} {F G : List Nat} {D : Dst} {L : LS} {S : Stt} {mu : Option Nat}
set_option maxRecDepth 100000 in
set_option maxHeartbeats 4000000 in
theorem Do_ok (h : StoreIs w g d lg img log F G D L S mu false) (ch : Ch) {Au Ab : Option Addr} {cu cb : Nat} (hsz : ch.user.length ≤ 12 ∧ ch.box.length ≤ 12) (hci : ChIn w ch Au Ab) (hk8 : ch.kind = 1 ∨ ch.kind = 2 ∨ ch.kind = 3 ∨ ch.kind = 4 ∨ ch.kind = 5 ∨ ch.kind = 6 ∨ ch.kind = 7 ∨ ch.kind = 8)
    (hT : TabN w) (hpos : 0 < w.heap.size) (ht : Tab w) (hok : isC ch = true) (he : doE S ch = 0) (ha : appE D log L (encC ch) = 0) (hfew : (appL D log L (encC ch)).es.length < 20) (hgd : GoodS (doS S ch)) :
    Calls Tryz.prog 15 #[.pointer (some ⟨g, 0, none⟩), chv ch Au cu Ab cb] w (DoR w g d lg img log F G (appS D log L (encC ch)) (appL D log L (encC ch)) (doS S ch) (doN S ch)) := by
  have hB := Bk.new w 29 #[.int .i64 ch.kind, .string (St ch.user), .string (St ch.pass), .string (St ch.box), .string (St ch.to), .slice Au ch.uids.length cu, .int .i64 ch.mode, .int .i64 ch.flags, .int .i64 ch.date, .slice Ab ch.body.length cb]
  have oW : Only [] w (w.alloc (.cells #[.int .i64 ch.kind, .string (St ch.user), .string (St ch.pass), .string (St ch.box), .string (St ch.to), .slice Au ch.uids.length cu, .int .i64 ch.mode, .int .i64 ch.flags, .int .i64 ch.date, .slice Ab ch.body.length cb] 29)) := (Only.refl [] w).alloc _
  have HH := Lib.hid h
  have HEN := Lib.hid (EncodeC_any ch (A := Au) (B := Ab) (ca := cu) (cb := cb) (hci.uids.keep oW) (hci.body.keep oW) hci.many (hT.keep oW) (Nat.lt_of_lt_of_le hpos oW.size))
  replace HEN : Hid (Calls Tryz.prog 26 #[chv ch Au cu Ab cb] (w.alloc (.cells #[.int .i64 ch.kind, .string (St ch.user), .string (St ch.pass), .string (St ch.box), .string (St ch.to), .slice Au ch.uids.length cu, .int .i64 ch.mode, .int .i64 ch.flags, .int .i64 ch.date, .slice Ab ch.body.length cb] 29)) fun e w' => ∃ A' c', e = .returned (.tuple #[.slice A' (encC ch).length c', .int .i64 0]) ∧ Own w' 5 A' (encC ch).length c' (bvs (encC ch)) ∧ Only [] (w.alloc (.cells #[.int .i64 ch.kind, .string (St ch.user), .string (St ch.pass), .string (St ch.box), .string (St ch.to), .slice Au ch.uids.length cu, .int .i64 ch.mode, .int .i64 ch.flags, .int .i64 ch.date, .slice Ab ch.body.length cb] 29)) w' ∧ ∀ k ∈ blks A', (w.alloc (.cells #[.int .i64 ch.kind, .string (St ch.user), .string (St ch.pass), .string (St ch.box), .string (St ch.to), .slice Au ch.uids.length cu, .int .i64 ch.mode, .int .i64 ch.flags, .int .i64 ch.date, .slice Ab ch.body.length cb] 29)).heap.size ≤ k) := by
    refine HEN.out.mono ?_
    rintro e w' (⟨_, A1, c1, rfl, h1, h2, h3⟩ | ⟨h, _⟩)
    · exact ⟨A1, c1, rfl, h1, h2, h3⟩
    · exact absurd (hok.symm.trans h) (by decide)
  unfold chv at HEN
  obtain ⟨Nr, hNr⟩ : ∃ x : Int, doN S ch = x := ⟨_, rfl⟩
  obtain ⟨Sr, hSr⟩ : ∃ x : Stt, doS S ch = x := ⟨_, rfl⟩
  have HAF : Hid (∀ (K : Nat → Prop) (V : World), SIn K V mu S → ChIn V ch Au Ab → Calls Tryz.prog 42 #[.agg #[.int .i64 S.next, .map mu], .agg #[.int .i64 ch.kind, .string (St ch.user), .string (St ch.pass), .string (St ch.box), .string (St ch.to), .slice Au ch.uids.length cu, .int .i64 ch.mode, .int .i64 ch.flags, .int .i64 ch.date, .slice Ab ch.body.length cb]] V fun e w' => ∃ m, e = .returned (tupS Sr.next Nr m) ∧ KnS Sr K w' m ∧ Only [] V w') := by
    intro K V hi hc
    refine Calls.mono (after_any S hi ch (cu := cu) (cb := cb) hsz hc hk8) ?_
    rw [he, hNr, hSr]
    rintro e w' (⟨h, _⟩ | ⟨_, m, rfl, h2, h3⟩)
    · exact absurd rfl h
    · exact ⟨m, rfl, h2, h3⟩
  rw [hNr, hSr]
  rw [hSr] at hgd
  have HGD := Lib.hid hgd
  have HCI := Lib.hid hci
  have HT := Lib.hid ht
  have HAP := Lib.hid (fun (V : World) (F' G' : List Nat) (hD : Disk V d F' D) (hL : Lg V d lg img log G' L) (hFG : ∀ x ∈ F', x ∉ G') (A : Option Addr) (c : Nat) (hs : Sl V A (encC ch).length (bvs (encC ch))) (hp : 0 < (encC ch).length → ∀ ad, A = some ad → ad.block ∉ F') (t : Tab V) => lappend_any hD hL hFG A (encC ch).length c (encC ch) hs hp t)
  rw [ha] at HAP
  rw [show ((0 : Nat) : Int) = 0 from rfl] at HAP
  have HOK := Lib.hid hok
  have HFE := Lib.hid hfew
  have HNN : Hid (∃ k : Nat, appN D log L (encC ch) = k) := ⟨_, rfl⟩
  unfold chv
  obtain ⟨c0, c1, c2, c3⟩ := bk_four (h.bk.only oW (by simp))
  have hgl := (h.bk.only oW (by simp)).lt
  obtain ⟨k0, k1, k2, k3, k4, k5, k6, k7, k8, k9⟩ := bk_ten hB
  have kl := hB.lt
  have HB := Lib.hid hB
  have HOW := Lib.hid oW
  clear h hsz hci hk8 hT hpos ht hok he ha hfew hgd hNr hSr hB oW
  go_enter Tryz.func15, Tryz.ntmps15
  go_upto_region 8 with (go_at_call 26; go_must (refine HEN.out.mono ?_); rintro e w1 ⟨A1, cap1, rfl, V1, O1, B1⟩; clear HEN; have HC1 := HH.out.bk.only (HOW.out.then O1) (by simp); clear c0 c1 c2 c3 hgl; obtain ⟨c0, c1, c2, c3⟩ := bk_four HC1; have hgl := HC1.lt; have HK1 := HB.out.only O1 (by simp); clear k0 k1 k2 k3 k4 k5 k6 k7 k8 k9 kl; obtain ⟨k0, k1, k2, k3, k4, k5, k6, k7, k8, k9⟩ := bk_ten HK1; have kl := HK1.lt)
  have HC1' := Lib.hid HC1
  have HK1' := Lib.hid HK1
  have HO1 : Hid (Only [] w w1) := HOW.out.then O1
  have HV1 := Lib.hid V1
  have HB1 : Hid (∀ k ∈ blks A1, w.heap.size ≤ k) := fun k hk => Nat.le_trans HOW.out.size (B1 k hk)
  have HFR : Hid (∀ y, w1.heap.size ≤ y → StK F G g y) := fun y hy => by
    have := HO1.out.size
    refine ⟨fun h => ?_, fun h => ?_, fun h => ?_⟩
    · have := HH.out.dk.lt h; omega
    · have := HH.out.lgr.lt h; omega
    · have := HH.out.bk.lt; omega
  have HSI : Hid (∀ (K : Nat → Prop) (V : World), Only [] w1 V → (∀ y, V.heap.size ≤ y → K y) → (∀ y, y < w1.heap.size → StK F G g y → K y) → SIn K V mu S) := fun K V o hk hs => ⟨((HH.out.st.keep HO1.out).mono hs).keep o, hk, HH.out.good⟩
  have HCV : Hid (∀ V, Only [] w1 V → ChIn V ch Au Ab) := fun V o => ⟨HCI.out.uids.keep (HO1.out.then o), HCI.out.body.keep (HO1.out.then o), HCI.out.many, HCI.out.to⟩
  clear HC1 HK1 O1 V1 B1 c0 c1 c2 c3 hgl k0 k1 k2 k3 k4 k5 k6 k7 k8 k9 kl
  apply region_inv (CallG w1 (StK F G g) (KnS Sr) (tupS Sr.next Nr) (boxS Sr.next) (csS Sr.next) 91 #[.int .i64 0, .map none] 5 6 7 10 11) (by kernel_rfl) (by kernel_rfl) (fun vs => CallG.start vs)
  intro vs
  apply inv_val
  case hw => rfl
  case hI => intro L wS hI; exact hI.pure (by decide)
  case hy => intro L wS hI; skip; first | (go_simp; done) | (go_simp; with_reducible rfl)
  case' hk => skip
  try simp only [Act.put, List.setIfInBounds_toArray, List.set_cons_zero, List.set_cons_succ]
  apply inv_val
  case hw => rfl
  case hI => intro L wS hI; exact hI.pure (by decide)
  case hy => intro L wS hI; skip; first | (go_simp; done) | (go_simp; with_reducible rfl)
  case' hk => skip
  try simp only [Act.put, List.setIfInBounds_toArray, List.set_cons_zero, List.set_cons_succ]
  apply inv_val
  case hw => rfl
  case hI => intro L wS hI; exact hI.pure (by decide)
  case hy => intro L wS hI; skip; first | (go_simp; done) | (go_simp; with_reducible rfl)
  case' hk => skip
  try simp only [Act.put, List.setIfInBounds_toArray, List.set_cons_zero, List.set_cons_succ]
  apply inv_val
  case hw => rfl
  case hI => intro L wS hI; exact hI.pure (by decide)
  case hy => intro L wS hI; have q0 := hI.1.cellSome (HC1'.out.cell 1) (by simp); have q1 := hI.1.cellSome (HC1'.out.cell 2) (by simp); first | (go_simp; done) | (go_simp; with_reducible rfl)
  case' hk => skip
  try simp only [Act.put, List.setIfInBounds_toArray, List.set_cons_zero, List.set_cons_succ]
  apply inv_val
  case hw => rfl
  case hI => intro L wS hI; exact hI.pure (by decide)
  case hy => intro L wS hI; have q0 := hI.1.cellSome (HK1'.out.cell 0) (by simp); have q1 := hI.1.cellSome (HK1'.out.cell 1) (by simp); have q2 := hI.1.cellSome (HK1'.out.cell 2) (by simp); have q3 := hI.1.cellSome (HK1'.out.cell 3) (by simp); have q4 := hI.1.cellSome (HK1'.out.cell 4) (by simp); have q5 := hI.1.cellSome (HK1'.out.cell 5) (by simp); have q6 := hI.1.cellSome (HK1'.out.cell 6) (by simp); have q7 := hI.1.cellSome (HK1'.out.cell 7) (by simp); have q8 := hI.1.cellSome (HK1'.out.cell 8) (by simp); have q9 := hI.1.cellSome (HK1'.out.cell 9) (by simp); first | (go_simp; done) | (go_simp; with_reducible rfl)
  case' hk => skip
  try simp only [Act.put, List.setIfInBounds_toArray, List.set_cons_zero, List.set_cons_succ]
  apply inv_op
  case hw => rfl
  case hy =>
    intro L wS hI hL hw
    refine gives_call (f := 42) (args := #[.agg #[.int .i64 S.next, .map mu], .agg #[.int .i64 ch.kind, .string (St ch.user), .string (St ch.pass), .string (St ch.box), .string (St ch.to), .slice Au ch.uids.length cu, .int .i64 ch.mode, .int .i64 ch.flags, .int .i64 ch.date, .slice Ab ch.body.length cb]]) ?_ ?_
    · first | (go_simp; done) | (go_simp; with_reducible rfl)
    · exact (HAF.out (CallG.cls (StK F G g) 10 L vs) wS (HSI.out _ wS hI.1 (hI.fresh HFR.out) (fun y hy hs => hI.old hy hs)) (HCV.out wS hI.1)).mono fun e w' he => by
        obtain ⟨xw, e1, e2, e3⟩ := he
        exact ⟨_, e1, hI.call (knS Sr) xw hL (by decide) e2 e3, trivial⟩
  case' hk => skip
  try simp only [Act.put, List.setIfInBounds_toArray, List.set_cons_zero, List.set_cons_succ]
  apply inv_op
  case hw => rfl
  case hy =>
    intro L wS hI hL hw
    obtain ⟨xw, e, h⟩ := hI.move (hw 5 (by kernel_rfl)) (by decide)
    refine gives_value (u := tupS Sr.next Nr xw) (w' := wS) ?_ h trivial
    rw [e]
    unfold tupS
    first | (go_simp; done) | (go_simp; with_reducible rfl)
  case' hk => skip
  try simp only [Act.put, List.setIfInBounds_toArray, List.set_cons_zero, List.set_cons_succ]
  apply inv_op
  case hw => rfl
  case hy =>
    intro L wS hI hL hw
    obtain ⟨xw, e, h⟩ := hI.part (hw 6 (by kernel_rfl)) (by decide)
    refine gives_value (u := boxS Sr.next xw) (w' := wS) ?_ h trivial
    rw [e]
    unfold tupS boxS
    first | (go_simp; done) | (go_simp; with_reducible rfl)
  case' hk => skip
  try simp only [Act.put, List.setIfInBounds_toArray, List.set_cons_zero, List.set_cons_succ]
  apply inv_valw (v := .int .i64 Nr)
  case hw => rfl
  case hI => intro L wS hI; exact hI.pure (by decide)
  case hy =>
    intro L wS hI hw
    obtain ⟨xw, e⟩ := hI.see (hw 6 (by kernel_rfl))
    rw [e]
    unfold tupS
    first | (go_simp; done) | (go_simp; with_reducible rfl)
  case' hk => skip
  try simp only [Act.put, List.setIfInBounds_toArray, List.set_cons_zero, List.set_cons_succ]
  apply inv_valw (v := .int .i64 0)
  case hw => rfl
  case hI => intro L wS hI; exact hI.pure (by decide)
  case hy =>
    intro L wS hI hw
    obtain ⟨xw, e⟩ := hI.see (hw 6 (by kernel_rfl))
    rw [e]
    unfold tupS
    first | (go_simp; done) | (go_simp; with_reducible rfl)
  case' hk => skip
  try simp only [Act.put, List.setIfInBounds_toArray, List.set_cons_zero, List.set_cons_succ]
  apply inv_op
  case hw => rfl
  case hy =>
    intro L wS hI hL hw
    refine gives_value (u := ptr2 wS.heap.size) (w' := wS.alloc (.cells #[.int .i64 0, .map none] 91)) ?_ (hI.alloc (knS Sr) hL (by decide)) trivial
    show _ = Result.ok (Next.value (.pointer (some ⟨wS.heap.size, 0, none⟩))) (wS.alloc (.cells #[.int .i64 0, .map none] 91))
    first | (go_simp; done) | (go_simp; with_reducible rfl)
  case' hk => skip
  try simp only [Act.put, List.setIfInBounds_toArray, List.set_cons_zero, List.set_cons_succ]
  apply inv_op
  case hw => rfl
  case hy =>
    intro L wS hI hL hw
    obtain ⟨gn, xw, e4, e3, hb, hst⟩ := hI.store (knS Sr) hL (hw 10 (by kernel_rfl)) (hw 7 (by kernel_rfl)) (by decide)
    obtain ⟨p0, p1⟩ := bk_two hb
    have fz0 := hb.free 0
    have fz1 := hb.free 1
    have hg := hb.lt
    rw [e4, e3]
    refine gives_skip ?_ (hst _ _ (only_store2 (Only.refl [gn] wS) (.inl List.mem_cons_self) (.int .i64 Sr.next) (.map xw)) (bk_store2 hb _ _)) trivial
    unfold ptr2 boxS
    go_simp
  case' hk => skip
  try simp only [Act.put]
  apply inv_val
  case hw => rfl
  case hI => intro L wS hI; exact hI.pure (by decide)
  case hy => intro L wS hI; skip; first | (go_simp; done) | (go_simp; with_reducible rfl)
  case' hk => skip
  try simp only [Act.put, List.setIfInBounds_toArray, List.set_cons_zero, List.set_cons_succ]
  apply inv_val
  case hw => rfl
  case hI => intro L wS hI; exact hI.pure (by decide)
  case hy => intro L wS hI; skip; first | (go_simp; done) | (go_simp; with_reducible rfl)
  case' hk => skip
  try simp only [Act.put, List.setIfInBounds_toArray, List.set_cons_zero, List.set_cons_succ]
  refine inv_end ?_
  intro L9 w2 hall hI
  obtain ⟨mu3, p8, e1, e2, e3, e4, hp8, N2, K2, O2⟩ := hI.end_ (knS Sr) ⟨hall 5 (by decide), hall 6 (by decide), hall 7 (by decide), hall 10 (by decide), hall 11 (by decide)⟩
  rw [e1, e2, e3, e4]
  clear e1 e2 e3 e4 hall hI
  unfold ptr2 tupS boxS
  unfold csS at N2
  have HC2 := HC1'.out.only O2 (by simp)
  obtain ⟨c0, c1, c2, c3⟩ := bk_four HC2
  have hgl := HC2.lt
  have HQ2 : Hid (Only [] w w2) := HO1.out.then O2
  have HAQ := Lib.hid (HAP.out w2 F G (HH.out.dk.keep HQ2.out) (HH.out.lgr.keep HQ2.out) HH.out.fg A1 cap1 (HV1.out.sl.keep O2) (fun _ ad e hm => by
    subst e
    have h1 := HB1.out ad.block (by simp [blks])
    have h2 := HH.out.dk.lt hm
    omega) (HT.out.keep HQ2.out))
  have HP8 : Hid (w.heap.size ≤ p8) := Nat.le_trans HO1.out.size hp8
  have HST : Hid (StIs (fun y => (StK F G g y ∧ y ≠ p8) ∧ y < w2.heap.size) w2 mu3 Sr) := StIs.mono K2 (fun y hl hy => ⟨hy, hl⟩)
  have HC2' := Lib.hid HC2
  have HN2 := Lib.hid N2
  clear hp8 HC2 K2 O2 N2 HAP HFR HSI HCV
  have HGF : Hid (g < w.heap.size) := HH.out.bk.lt
  go_wp2_with (go_at_call 43; go_must (refine HAQ.out.mono ?_); rintro e w3 ⟨rfl, F3, G3, D3, L3, FG3, Q3, B3, B4⟩; clear HAQ; have HC3 := HC2'.out.only Q3 (by simp [HH.out.own.1, HH.out.own.2]); have N3 := HN2.out.only Q3 (by simp; exact ⟨fun h => by have := HH.out.dk.lt h; have := HP8.out; omega, fun h => by have := HH.out.lgr.lt h; have := HP8.out; omega⟩); clear c0 c1 c2 c3 hgl; obtain ⟨c0, c1, c2, c3⟩ := bk_four HC3; have hgl := HC3.lt; obtain ⟨p0, p1⟩ := bk_two N3; have pl := N3.lt; have gf1 := HC3.free 1; have gf2 := HC3.free 2)
  have OS : Only [g] w3 ((w3.setCell ⟨g, 1, none⟩ (.int .i64 Sr.next)).setCell ⟨g, 2, none⟩ (.map mu3)) := ((Only.refl [g] w3).setCell (p := ⟨g, 1, none⟩) (.inl List.mem_cons_self) _).setCell (p := ⟨g, 2, none⟩) (.inl List.mem_cons_self) _
  have HC4 : Bk ((w3.setCell ⟨g, 1, none⟩ (.int .i64 Sr.next)).setCell ⟨g, 2, none⟩ (.map mu3)) g 93 #[.pointer (some ⟨lg, 0, none⟩), .int .i64 Sr.next, .map mu3, .bool false] := by simpa using (HC3.set 1 (.int .i64 Sr.next)).set 2 (.map mu3)
  have hgG : ∀ x ∈ G3, x ∉ [g] := fun x hx hh => by have h1 := List.mem_singleton.1 hh; rw [h1] at hx; exact (B4 g hx).elim HH.out.own.2 (fun h => by have := HQ2.out.size; have := HGF.out; omega)
  have L4 := L3.only OS hgG
  have HL4 := Lib.hid L4
  have HOS := Lib.hid OS
  have HCC := Lib.hid HC4
  have HGG := Lib.hid hgG
  refine (fold_few HC4 L4 HFE.out).mono ?_
  rintro e w5 ⟨rfl, O5⟩
  clear c0 c1 c2 c3 hgl p0 p1 pl gf1 gf2 OS HC4 L4 hgG
  go_wp2
  go_ret2
  have hgF : g ∉ F3 := fun h => by
    rcases B3 g h with h | h
    · exact HH.out.own.1 h
    · have := HQ2.out.size; have := HGF.out; omega
  have hsz := HQ2.out.size
  refine ⟨rfl, F3, G3, mu3, ⟨HCC.out.only O5 (by simp), (D3.only HOS.out (fun x hx hh => hgF (by have h1 := List.mem_singleton.1 hh; rwa [h1] at hx))).keep O5, HL4.out.keep O5, FG3, ?_, ⟨hgF, fun h => HGG.out g h (by simp)⟩, HGD.out⟩, ?_, fun x hx => ?_, fun x hx => ?_⟩
  · refine StIs.mono (((HST.out.only Q3 (fun y hy hh => ?_)).only HOS.out (fun y hy hh => hy.1.1.2.2 (List.mem_singleton.1 hh))).keep O5) (fun y _ hy => ⟨fun h => ?_, fun h => ?_, hy.1.1.2.2⟩)
    · rcases List.mem_append.1 hh with h | h
      · exact hy.1.1.1 h
      · exact hy.1.1.2.1 h
    · rcases B3 y h with h | h
      · exact hy.1.1.1 h
      · have := hy.2; omega
    · rcases B4 y h with h | h
      · exact hy.1.1.2.1 h
      · have := hy.2; omega
  · refine Only.trans (Only.trans (Only.trans (HQ2.out.mono (fun _ hm => nomatch hm)) Q3 (fun x hx => .inl (List.mem_cons_of_mem _ hx))) HOS.out (fun x hx => .inl (by have h1 := List.mem_singleton.1 hx; simp [h1]))) O5 (fun _ hm => nomatch hm)
  · exact (B3 x hx).imp id (fun h => by omega)
  · exact (B4 x hx).imp id (fun h => by omega)
end
end Go.Proofs.YtgnilldcfpgpaaaGreatDoor
namespace Go.Proofs.YtgnilldcfpgpaaaGreatDoor
open Go.RowKit Go.Maps
def kc1 : Ch := ⟨1, [97], [112], [], [], [], 0, 0, 0, []⟩
def kc2 : Ch := ⟨5, [97], [], inboxL, [], [], 0, 0, 0, []⟩
def kS1 : Stt := ⟨2, [⟨[97], [112], [⟨inboxL, 1, 1, []⟩]⟩]⟩
def kS2 : Stt := ⟨2, [⟨[97], [112], [⟨inboxL, 1, 2, [⟨1, 0, 0, []⟩]⟩]⟩]⟩
def kD1 : Dst := appS D0 (logName mailN) L0 (encC kc1)
def kL1 : LS := appL D0 (logName mailN) L0 (encC kc1)
def kD2 : Dst := appS kD1 (logName mailN) kL1 (encC kc2)
def kL2 : LS := appL kD1 (logName mailN) kL1 (encC kc2)
theorem kn_1 : isC kc1 = true ∧ doE ⟨1, []⟩ kc1 = 0 ∧ doS ⟨1, []⟩ kc1 = kS1 ∧ doN ⟨1, []⟩ kc1 = 0 ∧ appE D0 (logName mailN) L0 (encC kc1) = 0 ∧ kL1.es.length = 1 := ⟨by kernel_rfl, by kernel_rfl, by kernel_rfl, by kernel_rfl, by kernel_rfl, by kernel_rfl⟩
theorem kn_2 : isC kc2 = true ∧ doE kS1 kc2 = 0 ∧ doS kS1 kc2 = kS2 ∧ doN kS1 kc2 = 1 ∧ appE kD1 (logName mailN) kL1 (encC kc2) = 0 ∧ kL2.es.length = 2 := ⟨by kernel_rfl, by kernel_rfl, by kernel_rfl, by kernel_rfl, by kernel_rfl, by kernel_rfl⟩
theorem good_1 : GoodS kS1 := by
  refine ⟨by decide, List.pairwise_singleton _ _, fun u hu => ?_, by decide⟩
  have h := List.mem_singleton.1 hu
  subst h
  exact ⟨by kernel_rfl, by kernel_rfl, List.pairwise_singleton _ _, fun b hb => by have h := List.mem_singleton.1 hb; rw [h]; exact (show isB ⟨inboxL, 1, 1, []⟩ = true by kernel_rfl), by kernel_rfl, by decide⟩
theorem good_2 : GoodS kS2 := by
  refine ⟨by decide, List.pairwise_singleton _ _, fun u hu => ?_, by decide⟩
  have h := List.mem_singleton.1 hu
  subst h
  exact ⟨by kernel_rfl, by kernel_rfl, List.pairwise_singleton _ _, fun b hb => by have h := List.mem_singleton.1 hb; rw [h]; exact (show isB ⟨inboxL, 1, 2, [⟨1, 0, 0, []⟩]⟩ = true by kernel_rfl), by kernel_rfl, by decide⟩
theorem chk_a {us : List Lu} {bs : List Bx} (h : us.map Lu.us = [⟨[97], [112], bs⟩]) (t : ByteArray) : chk us ⟨#[97]⟩ t = ((St [112]).toList == t.toList) := by
  rw [List.map_eq_cons_iff] at h
  obtain ⟨u, r, rfl, hu, hr⟩ := h
  rw [List.map_eq_nil_iff] at hr
  subst hr
  obtain ⟨n, p, mb, b⟩ := u
  unfold Lu.us at hu
  simp only [Us.mk.injEq] at hu
  obtain ⟨rfl, rfl, _⟩ := hu
  have hk : Lu.key ⟨[97], [112], mb, b⟩ = ⟨#[97]⟩ := rfl
  unfold chk findL
  simp [hk]
theorem chin_1 (w : World) : ChIn w kc1 none none := ⟨Sl.none_, Sl.none_, by decide, by decide⟩
theorem chin_2 (w : World) : ChIn w kc2 none none := ⟨Sl.none_, Sl.none_, by decide, by decide⟩
theorem do_new {w0 w w' : World} {g d lg : Nat} {img log : ByteArray} {F G : List Nat} {D' : Dst} {L' : LS} {S' : Stt} {N : Int} {e : Ending} {q : Nat} {cs : Array Value} (o : Only [] w0 w) (hF : ∀ x ∈ F, w0.heap.size ≤ x) (hG : ∀ x ∈ G, w0.heap.size ≤ x) (hg : w0.heap.size ≤ g) (hq : Bk w q 39 cs) (hn : q ∉ F ∧ q ∉ G ∧ q ≠ g) (h : DoR w g d lg img log F G D' L' S' N e w') :
    e = .returned (.tuple #[.int .i64 N, .int .i64 0]) ∧ ∃ F' G' mu', StoreIs w' g d lg img log F' G' D' L' S' mu' false ∧ Only [] w0 w' ∧ (∀ x ∈ F', w0.heap.size ≤ x) ∧ (∀ x ∈ G', w0.heap.size ≤ x) ∧ Bk w' q 39 cs ∧ q ∉ F' ∧ q ∉ G' ∧ q ≠ g := by
  obtain ⟨he, F', G', mu', h1, h2, h3, h4⟩ := h
  have hs := o.size
  have hl := hq.lt
  refine ⟨he, F', G', mu', h1, o.trans h2 (fun x hx => .inr ?_), fun x hx => ?_, fun x hx => ?_, hq.only h2 (fun hm => ?_), fun hm => ?_, fun hm => ?_, hn.2.2⟩
  · rcases List.mem_cons.1 hx with rfl | hx
    · exact hg
    · rcases List.mem_append.1 hx with h | h
      · exact hF x h
      · exact hG x h
  · rcases h3 x hx with h | h
    · exact hF x h
    · omega
  · rcases h4 x hx with h | h
    · exact hG x h
    · omega
  · rcases List.mem_cons.1 hm with h | hm
    · exact hn.2.2 h
    · rcases List.mem_append.1 hm with h | h
      · exact hn.1 h
      · exact hn.2.1 h
  · rcases h3 q hm with h | h
    · exact hn.1 h
    · omega
  · rcases h4 q hm with h | h
    · exact hn.2.1 h
    · omega
set_option maxRecDepth 100000 in
set_option maxHeartbeats 4000000 in
theorem sknown_any (w : World) (ht : Tab w) (hT : TabN w) (hpos : 0 < w.heap.size) (hrem : 1 < w.heap.size) : Calls Tryz.prog 23 #[] w fun e w' => e = .returned (.bool true) ∧ Only [] w w' := by
  have HBE := Lib.hid (sbegin_any ht hrem)
  have HT := Lib.hid (And.intro ht (And.intro hT hpos))
  have HD1 : Hid (∀ (W : World) (g d lg : Nat) (F G : List Nat) (mu : Option Nat), Only [] w W → StoreIs W g d lg (imgName mailN) (logName mailN) F G D0 L0 ⟨1, []⟩ mu false → Calls Tryz.prog 15 #[.pointer (some ⟨g, 0, none⟩), .agg #[.int .i64 1, .string ⟨#[97]⟩, .string ⟨#[112]⟩, .string ⟨#[]⟩, .string ⟨#[]⟩, .slice none 0 0, .int .i64 0, .int .i64 0, .int .i64 0, .slice none 0 0]] W (DoR W g d lg (imgName mailN) (logName mailN) F G kD1 kL1 kS1 0)) := by
    intro W g d lg F G mu o h
    have := Do_ok h kc1 (Au := none) (Ab := none) (cu := 0) (cb := 0) (by decide) (chin_1 W) (by decide) (hT.keep o) (Nat.lt_of_lt_of_le hpos o.size) (ht.keep o) kn_1.1 kn_1.2.1 kn_1.2.2.2.2.1 (by have h := kn_1.2.2.2.2.2; unfold kL1 at h; omega) (by rw [kn_1.2.2.1]; exact good_1)
    rw [kn_1.2.2.1, kn_1.2.2.2.1] at this
    exact this
  have HD2 : Hid (∀ (W : World) (g d lg : Nat) (F G : List Nat) (mu : Option Nat), Only [] w W → StoreIs W g d lg (imgName mailN) (logName mailN) F G kD1 kL1 kS1 mu false → Calls Tryz.prog 15 #[.pointer (some ⟨g, 0, none⟩), .agg #[.int .i64 5, .string ⟨#[97]⟩, .string ⟨#[]⟩, .string ⟨#[105, 110, 98, 111, 120]⟩, .string ⟨#[]⟩, .slice none 0 0, .int .i64 0, .int .i64 0, .int .i64 0, .slice none 0 0]] W (DoR W g d lg (imgName mailN) (logName mailN) F G kD2 kL2 kS2 1)) := by
    intro W g d lg F G mu o h
    have := Do_ok h kc2 (Au := none) (Ab := none) (cu := 0) (cb := 0) (by decide) (chin_2 W) (by decide) (hT.keep o) (Nat.lt_of_lt_of_le hpos o.size) (ht.keep o) kn_2.1 kn_2.2.1 kn_2.2.2.2.2.1 (by have h := kn_2.2.2.2.2.2; unfold kL2 at h; omega) (by rw [kn_2.2.2.1]; exact good_2)
    rw [kn_2.2.2.1, kn_2.2.2.2.1] at this
    exact this
  have HCK : Hid (∀ (W : World) (g d lg : Nat) (F G : List Nat) (mu : Option Nat), StoreIs W g d lg (imgName mailN) (logName mailN) F G kD2 kL2 kS2 mu false → ∀ (t : ByteArray) (b : Bool), ((St [112]).toList == t.toList) = b → Calls Tryz.prog 36 #[.pointer (some ⟨g, 0, none⟩), .string ⟨#[97]⟩, .string t] W fun e w' => e = .returned (.bool b) ∧ Only [] W w') := by
    intro W g d lg F G mu h t b hb
    obtain ⟨us, hu, hm⟩ := h.st
    have := Check_any h.bk hu ⟨#[97]⟩ t (by decide)
    rw [chk_a hm, hb] at this
    exact this
  have HP1 := Lib.hid (show ((St [112]).toList == (⟨#[112]⟩ : ByteArray).toList) = true by kernel_rfl)
  have HP2 := Lib.hid (show ((St [112]).toList == (⟨#[113]⟩ : ByteArray).toList) = false by kernel_rfl)
  clear ht hT hpos hrem
  unfold Began at HBE
  generalize imgName mailN = img at *
  generalize logName mailN = log at *
  go_enter Tryz.func23, Tryz.ntmps23
  go_wp2_with (first
    | (go_at_call 14; refine HBE.out.mono ?_; clear HBE; rintro e w1 ⟨q, d, x, g, t, lg, F1, G1, rg, rfl, Q1, S1, _, _, O1, F1f, G1f, gf, n1, n2, n3⟩; have s2 := Q1.cell 2; have ql := Q1.lt)
    | (go_at_call 15; refine (HD1.out w1 g d lg F1 G1 none O1 S1).mono ?_; clear HD1; intro e w2 hd; obtain ⟨rfl, F2, G2, mu2, S2, O2, F2f, G2f, Q2, m⟩ := do_new O1 F1f G1f gf Q1 ⟨n1, n2, n3⟩ hd; clear hd s2 ql; have s2 := Q2.cell 2; have ql := Q2.lt)
    | (go_at_call 15; go_must (refine (HD2.out w2 g d lg F2 G2 mu2 O2 S2).mono ?_); clear HD2; intro e w3 hd; obtain ⟨rfl, F3, G3, mu3, S3, O3, F3f, G3f, Q3, m3⟩ := do_new O2 F2f G2f gf Q2 m hd; clear hd s2 ql; have s2 := Q3.cell 2; have ql := Q3.lt)
    | (go_at_call 36; refine (HCK.out w3 g d lg F3 G3 mu3 S3 ⟨#[112]⟩ true HP1.out).mono ?_; clear HP1; rintro e w4 ⟨rfl, O4⟩; have S4 := S3.keep O4; have Q4 := Q3.only O4 (by simp); clear s2 ql; have s2 := Q4.cell 2; have ql := Q4.lt)
    | (go_at_call 36; go_must (refine (HCK.out w4 g d lg F3 G3 mu3 S4 ⟨#[113]⟩ false HP2.out).mono ?_); clear HP2; rintro e w5 ⟨rfl, O5⟩))
  go_ret
  exact ⟨rfl, (O3.then O4).then O5⟩
end Go.Proofs.YtgnilldcfpgpaaaGreatDoor
namespace Go.Proofs.YtgnilldcfpgpaaaGreatDoor
open Go.RowKit Go.Maps
set_option maxRecDepth 100000 in
theorem sheavy_any (w : World) (k m f d : Int) (u p b t : ByteArray) (A1 A2 : Option Addr) (n1 c1 n2 c2 : Nat) : Calls Tryz.prog 25 #[.agg #[.int .i64 k, .string u, .string p, .string b, .string t, .slice A1 n1 c1, .int .i64 m, .int .i64 f, .int .i64 d, .slice A2 n2 c2]] w fun e w' => ∃ N : Int, e = .returned (.int .i64 N) ∧ Only [] w w' := by
  go_enter Tryz.func25, Tryz.ntmps25
  go_wp2
  go_ret
  exact ⟨_, rfl, (Only.refl [] _).alloc _⟩
end Go.Proofs.YtgnilldcfpgpaaaGreatDoor
namespace Go.Proofs.YtgnilldcfpgpaaaGreatDoor
open Go.RowKit
structure Rr (w : World) (g kb : Nat) (A : Option Addr) (c : Nat) (bad : Bool) (l : List UInt8) : Prop where
  bk : Bk w g 148 #[.slice A l.length c, .bool bad]
  sl : Sl w A l.length (bvs l)
  cap : l.length ≤ c
  at_ : ∀ ad, A = some ad → ad.block = kb
  ne : g ≠ kb
  lt : kb < w.heap.size
  err : bad = true → l = []
  small : l.length ≤ 1000000000000
section
variable {w w' : World} {g kb : Nat} {A : Option Addr} {c : Nat} {bad : Bool} {l : List UInt8}
theorem Rr.only {rs : List Nat} (h : Rr w g kb A c bad l) (o : Only rs w w') (hg : g ∉ rs) (hk : kb ∉ rs) : Rr w' g kb A c bad l :=
  ⟨h.bk.only o hg, h.sl.only o (fun ad e => by rw [h.at_ ad e]; exact hk), h.cap, h.at_, h.ne, Nat.lt_of_lt_of_le h.lt o.size, h.err, h.small⟩
theorem Rr.keep (h : Rr w g kb A c bad l) (o : Only [] w w') : Rr w' g kb A c bad l := h.only o (fun hm => by cases hm) (fun hm => by cases hm)
theorem Rr.cell0 (h : Rr w g kb A c bad l) : w.cell? ⟨g, 0, none⟩ = some (.slice A l.length c) := by rw [h.bk.cell]; rfl
theorem Rr.cell1 (h : Rr w g kb A c bad l) : w.cell? ⟨g, 1, none⟩ = some (.bool bad) := by rw [h.bk.cell]; rfl
theorem Rr.erred (h : Rr w g kb A c bad l) : Rr ((w.setCell ⟨g, 1, none⟩ (.bool true)).setCell ⟨g, 0, none⟩ (.slice none 0 0)) g kb none 0 true [] :=
  ⟨by simpa using (h.bk.set 1 (.bool true)).set 0 (.slice none 0 0), Sl.none_, Nat.le_refl _, (fun _ e => by cases e), h.ne, by simpa [World.setCell] using h.lt, fun _ => rfl, Nat.zero_le _⟩
theorem Rr.moved (h : Rr w g kb A c false l) {k : Nat} (hk : k ≤ l.length) :
    Rr (w.setCell ⟨g, 0, none⟩ (.slice (if c = k then A else A.map (·.add k)) (l.length - k) (c - k))) g kb (if c = k then A else A.map (·.add k)) (c - k) false (l.drop k) := by
  have hl : (l.drop k).length = l.length - k := List.length_drop
  have hA : ∀ ad, (if c = k then A else A.map (·.add k)) = some ad → ad.block = kb := by
    intro ad e
    split at e
    · exact h.at_ ad e
    · cases A with
      | none => cases e
      | some a =>
        simp only [Option.map_some, Option.some.injEq] at e
        subst e
        rw [add_block]
        exact h.at_ a rfl
  have hcut := h.sl.cut (cap := c) hk h.cap
  rw [bvs_drop] at hcut
  refine ⟨?_, ?_, by have := h.cap; omega, hA, h.ne, by simpa [World.setCell] using h.lt, (fun e => by cases e), by have := h.small; omega⟩
  · rw [hl]
    simpa using h.bk.set 0 (.slice (if c = k then A else A.map (·.add k)) (l.length - k) (c - k))
  · rw [hl]
    exact hcut.only (rs := [g]) ((Only.refl _ _).setCell (.inl (by simp)) _) (fun ad e hm => by
      simp at hm
      exact h.ne (hm.symm.trans (hA ad e)))
end
def TookNumR (w : World) (g kb : Nat) (v : Nat) (bad' : Bool) (l' : List UInt8) (e : Ending) (w' : World) : Prop :=
  e = .returned (.int .i64 (v : Int)) ∧ ∃ A' c', Rr w' g kb A' c' bad' l' ∧ Only [g] w w'
def TookRowR (w : World) (g kb : Nat) (p : List UInt8) (bad' : Bool) (l' : List UInt8) (e : Ending) (w' : World) : Prop :=
  ∃ P cp A' c', e = .returned (.slice P p.length cp) ∧ Own w' 5 P p.length cp (bvs p) ∧ (∀ k ∈ blks P, w.heap.size ≤ k) ∧ Rr w' g kb A' c' bad' l' ∧ Only [g] w w'
set_option maxRecDepth 100000 in
theorem refWhole_any {w : World} {g kb : Nat} {A : Option Addr} {c : Nat} {bad : Bool} {l : List UInt8} (h : Rr w g kb A c bad l) :
    Calls Tryz.prog 76 #[.pointer (some ⟨g, 0, none⟩)] w fun e w' => e = .returned (.bool (!bad && decide (l = []))) ∧ w = w' := by
  have h0 := h.cell0
  have h1 := h.cell1
  cases bad
  · cases l with
    | nil =>
      go_enter Tryz.func76, Tryz.ntmps76
      go_wp2
      go_ret
      exact ⟨rfl, rfl⟩
    | cons b r =>
      have hx : (((b :: r).length : Int) == 0) = false := by rw [beq_eq_false_iff_ne, List.length_cons]; omega
      have hd : Hid (decide (b :: r = []) = false) := by show _ = _; simp
      generalize hm : (b :: r).length = m at hx h0
      clear hm h
      go_enter Tryz.func76, Tryz.ntmps76
      go_wp2
      go_ret
      exact ⟨by rw [hd.out]; rfl, rfl⟩
  · go_enter Tryz.func76, Tryz.ntmps76
    go_wp2
    go_ret
    exact ⟨rfl, rfl⟩
set_option maxRecDepth 100000 in
theorem refBad_any {w : World} {g kb : Nat} {A : Option Addr} {c : Nat} {bad : Bool} {l : List UInt8} (h : Rr w g kb A c bad l) :
    Calls Tryz.prog 142 #[.pointer (some ⟨g, 0, none⟩)] w fun e w' => e = .returned (.tuple #[]) ∧ Rr w' g kb none 0 true [] ∧ Only [g] w w' := by
  have h0 := h.cell0
  have h1 := h.cell1
  have f0 := h.bk.free 0
  have f1 := h.bk.free 1
  go_enter Tryz.func142, Tryz.ntmps142
  go_wp2
  go_end0
  exact ⟨rfl, h.erred, ((Only.refl _ _).setCell (.inl (by simp)) _).setCell (.inl (by simp)) _⟩
set_option maxHeartbeats 800000 in
set_option maxRecDepth 100000 in
theorem refRaw_any {w : World} {g kb : Nat} {A : Option Addr} {c : Nat} {bad : Bool} {l : List UInt8} (n : Int) (h : Rr w g kb A c bad l) :
    Calls Tryz.prog 141 #[.pointer (some ⟨g, 0, none⟩), .int .i64 n] w (TookRowR w g kb (rawRow bad l n) (rawBad bad l n) (rawRest bad l n)) := by
  have hc0 := h.cell0
  have hc1 := h.cell1
  by_cases hout : n < 0 ∨ (l.length : Int) < n
  · have hb : rawBad bad l n = true := by
      unfold rawBad
      rcases hout with ho | ho <;> simp [ho]
    have HB := Lib.hid hb
    have HZ := Lib.hid (raw_of_bad hb)
    clear hb
    by_cases hneg : n < 0
    · clear hout
      go_enter Tryz.func141, Tryz.ntmps141
      go_wp2_with (first
        | (go_at_call 142; go_must (refine (refBad_any h).mono ?_); rintro e w1 ⟨rfl, HR, HO⟩; have k1 := HR.cell1))
      go_ret
      rw [HZ.out.1, HB.out, HZ.out.2]
      exact ⟨none, 0, none, 0, rfl, Own.nil _ _, fun k hk => (by cases hk), HR, HO⟩
    · have hbig : (l.length : Int) < n := by omega
      clear hout
      go_enter Tryz.func141, Tryz.ntmps141
      go_wp2_with (first
        | (go_at_call 142; go_must (refine (refBad_any h).mono ?_); rintro e w1 ⟨rfl, HR, HO⟩; have k1 := HR.cell1))
      go_ret
      rw [HZ.out.1, HB.out, HZ.out.2]
      exact ⟨none, 0, none, 0, rfl, Own.nil _ _, fun k hk => (by cases hk), HR, HO⟩
  · have h0 : 0 ≤ n := by omega
    obtain ⟨m, rfl⟩ := Int.eq_ofNat_of_zero_le h0
    have hml : m ≤ l.length := by omega
    cases bad
    · have hb : rawBad false l (m : Int) = false := by
        unfold rawBad
        simp
        omega
      have HB := Lib.hid hb
      have hz := raw_of_good hb
      rw [Int.toNat_natCast] at hz
      have HZ := Lib.hid hz
      have hsm := h.small
      have hcp := h.cap
      have hlen : (l.take m).length = m := by rw [List.length_take]; omega
      have hpre := h.sl.pre hml
      rw [bvs_take] at hpre
      obtain ⟨i0, hi, hz0, hz1, hz2⟩ := info_parts infoByte
      have ho0 : Own (w.alloc (.cells #[] 5)) 5 (some ⟨w.heap.size, 0, none⟩) 0 0 [] := World.ownsRow_lit w #[] 0 (Nat.zero_le _) (Nat.zero_le _) rfl
      generalize hq : l.take m = q at *
      have HQ := Lib.hid hlen
      have hglt := h.bk.lt
      have HRr := Lib.hid h
      clear hb hz hout hlen hq
      go_enter Tryz.func141, Tryz.ntmps141
      go_wp2_with (first
        | (at_builtin; go_must (refine wpList_append_sl rfl (.tmp 23) (.tmp 29) 27 rfl 5 i0 (.int .u8 0) 1 Tryz.underlying27 hi hz0 hz1 hz2 rfl _ _ _ _ rfl ho0 A m c _ rfl (hpre.alloc _) (bvs_one _) (by unfold maxLen; omega) (by omega) ?_); intro P cp w1 HV HO1 HB1; rw [List.nil_append] at HV; rw [Nat.zero_add] at HV; have HO : Only [] w w1 := ((Only.refl [] w).alloc _).trans HO1 (fun x hx => .inr (by simp at hx; omega)); have k0 := (h.keep HO).cell0; have z0 := (h.keep HO).bk.free 0))
      all_goals go_ret
      all_goals
        have hR1 := HRr.out.keep HO
        have HM := hR1.moved hml
        have HBk : ∀ k ∈ blks P, w.heap.size ≤ k := fun k hk => by
          rcases HB1 k hk with h1 | h1
          · simp at h1; omega
          · simp at h1; omega
        have ho := fun x => (HO.mono (ss := [g]) (fun _ hx => by cases hx)).setCell (p := ⟨g, 0, none⟩) (.inl (by simp)) x
        have HV2 := fun x => HV.setFar (p := ⟨g, 0, none⟩) (HV.ne hR1.bk (by decide)) x
        rw [HZ.out.1, HB.out, HZ.out.2]
        first
          | (rw [if_neg (by assumption)] at HM; exact ⟨P, cp, _, _, by rw [HQ.out]; rfl, by rw [HQ.out]; exact HV2 _, HBk, HM, ho _⟩)
          | (rw [if_pos (by assumption), show c - m = 0 from by omega] at HM; exact ⟨P, cp, _, _, by rw [HQ.out]; rfl, by rw [HQ.out]; exact HV2 _, HBk, HM, ho _⟩)
    · have hl := h.err rfl
      subst hl
      obtain rfl : m = 0 := by simpa using hml
      have HZ : Hid (rawRow true [] ((0 : Nat) : Int) = [] ∧ rawBad true [] ((0 : Nat) : Int) = true ∧ rawRest true [] ((0 : Nat) : Int) = []) := by
        show _ ∧ _
        simp [rawRow, rawBad, rawRest]
      clear hout h0 hml
      go_enter Tryz.func141, Tryz.ntmps141
      go_wp2
      go_ret
      rw [HZ.out.1, HZ.out.2.1, HZ.out.2.2]
      exact ⟨none, 0, A, c, rfl, Own.nil _ _, fun k hk => (by cases hk), h, Only.refl _ _⟩
end Go.Proofs.YtgnilldcfpgpaaaGreatDoor
