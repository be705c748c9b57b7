/-
  keep: what Save and Load do to a disk, and that they do.
-/
import Derived.Test.YtblggoneifmoeaaDoorDOne
import Derived.Test.YtblggoneifmoeaaDoorFRef
namespace Go.Proofs.YtblggoneifmoeaaDoor
open Go.RowKit Go.Maps

def tilde (s : ByteArray) : ByteArray := s ++ ⟨#[126]⟩
def okLen (s : ByteArray) : Bool := decide (1 ≤ s.size ∧ s.size ≤ 60)
def writeE (S : St) (t : ByteArray) (b : List UInt8) : Nat :=
  if errF S t = 0 ∨ errF S t = 7 then (if errA (removeS S t) t b = 0 then errF (appendS (removeS S t) t b) t else errA (removeS S t) t b) else errF S t
def writeS (S : St) (t : ByteArray) (b : List UInt8) : St :=
  if errF S t = 0 ∨ errF S t = 7 then (if errA (removeS S t) t b = 0 then syncS (appendS (removeS S t) t b) t else removeS S t) else S
def wholeE (S : St) (s : ByteArray) (b : List UInt8) : Nat := if writeE S (tilde s) b = 0 then errR (writeS S (tilde s) b) (tilde s) s else writeE S (tilde s) b
def wholeS (S : St) (s : ByteArray) (b : List UInt8) : St := if writeE S (tilde s) b = 0 then renameS (writeS S (tilde s) b) (tilde s) s else writeS S (tilde s) b
def saveE (S : St) (s : ByteArray) (p : List UInt8) : Nat := if okLen s then wholeE S s (record p) else 1
def saveS (S : St) (s : ByteArray) (p : List UInt8) : St := if okLen s then wholeS S s (record p) else S
def loadE (S : St) (s : ByteArray) : Nat := if readE S s = 0 then (if oneBad (readD S s) = 0 then 0 else 3) else 7
def loadD (S : St) (s : ByteArray) : List UInt8 := if readE S s = 0 then oneBody (readD S s) else []

theorem errF_cases (S : St) (s : ByteArray) : errF S s = 0 ∨ errF S s = 1 ∨ errF S s = 7 ∨ errF S s = 9 := by
  unfold errF
  rcases errB_cases S [s] with h | h | h <;> rw [h]
  · simp only [ne_eq, not_true_eq_false, if_false]
    split
    · exact .inr (.inr (.inl rfl))
    · exact .inl rfl
  · exact .inr (.inl rfl)
  · exact .inr (.inr (.inr rfl))
theorem errA_cases (S : St) (s : ByteArray) (p : List UInt8) : errA S s p = 0 ∨ errA S s p = 1 ∨ errA S s p = 6 ∨ errA S s p = 9 := by
  unfold errA
  rcases errB_cases S [s] with h | h | h <;> rw [h]
  · simp only [ne_eq, not_true_eq_false, if_false]
    split
    · exact .inr (.inr (.inl rfl))
    · exact .inl rfl
  · exact .inr (.inl rfl)
  · exact .inr (.inr (.inr rfl))

theorem mem_blks {A : Option Addr} {ad : Addr} (e : A = some ad) : ad.block ∈ blks A := by subst e; simp
section
variable {w : World} {d : Nat} {F : List Nat} {S : St}
theorem chained {S2 : St} {F1 : List Nat} {w1 w2 : World} (O1 : Only F w w1) (B1 : ∀ x ∈ F1, x ∈ F ∨ w.heap.size ≤ x) (h : ∃ F2, Disk w2 d F2 S2 ∧ Only F1 w1 w2 ∧ ∀ x ∈ F2, x ∈ F1 ∨ w1.heap.size ≤ x) :
    ∃ F2, Disk w2 d F2 S2 ∧ Only F w w2 ∧ ∀ x ∈ F2, x ∈ F ∨ w.heap.size ≤ x := by
  obtain ⟨F2, D2, O2, B2⟩ := h
  have := O1.size
  refine ⟨F2, D2, O1.trans O2 B1, fun x hx => ?_⟩
  rcases B2 x hx with h | h
  · exact B1 x h
  · exact .inr (by omega)
theorem Did.then {S2 : St} {v2 : Value} {F1 : List Nat} {w1 w2 : World} {e : Ending} (O1 : Only F w w1) (B1 : ∀ x ∈ F1, x ∈ F ∨ w.heap.size ≤ x) (h : Did d F1 S2 v2 w1 e w2) : Did d F S2 v2 w e w2 := ⟨h.1, chained O1 B1 h.2⟩
theorem far {F F1 : List Nat} {w : World} {A : Option Addr} {n : Nat} {xs : List Value} (hs : Sl w A n xs) (hA : 0 < n → ∀ ad, A = some ad → ad.block ∉ F) (B1 : ∀ x ∈ F1, x ∈ F ∨ w.heap.size ≤ x) : 0 < n → ∀ ad, A = some ad → ad.block ∉ F1 := fun hn ad e hm => by
  rcases B1 _ hm with h | h
  · exact hA hn ad e h
  · have := hs.lt hn ad e; omega

set_option maxRecDepth 100000 in
theorem write_any (h : Disk w d F S) (t : ByteArray) (A : Option Addr) (n c : Nat) (b : List UInt8) (hl : b.length = n) (hs : Sl w A n (bvs b)) (hA : 0 < n → ∀ ad, A = some ad → ad.block ∉ F) :
    Calls Tryd.prog 46 #[.pointer (some ⟨d, 0, none⟩), .string t, .slice A n c] w (Did d F (writeS S t b) (.int .i64 (writeE S t b : Nat)) w) := by
  have HL := Lib.hid hl
  have HS := Lib.hid hs
  have HA := Lib.hid hA
  have HR := Lib.hid (remove_one h t)
  have HX := Lib.hid (fun (W : World) (F : List Nat) (S : St) (hD : Disk W d F S) (hs : Sl W A n (bvs b)) (hA : 0 < n → ∀ ad, A = some ad → ad.block ∉ F) => append_one hD t A n c b HL.out hs hA)
  clear hl hs hA
  have stop : errF S t = 1 ∨ errF S t = 9 → Calls Tryd.prog 46 #[.pointer (some ⟨d, 0, none⟩), .string t, .slice A n c] w (Did d F (writeS S t b) (.int .i64 (writeE S t b : Nat)) w) := by
    intro h1
    have e1 : writeS S t b = S := by unfold writeS; rw [if_neg (by omega)]
    have e2 : writeE S t b = errF S t := by unfold writeE; rw [if_neg (by omega)]
    have e3 : removeS S t = S := by unfold removeS; rw [if_neg (by omega)]
    rw [e1, e2]
    rw [e3] at HR
    rcases h1 with h1 | h1
    all_goals
      rw [h1] at HR ⊢
      clear h1 e1 e2 e3 HX HS HL HA h
      go_enter Tryd.func46, Tryd.ntmps46
      go_wp2_with (go_at_call 34; refine HR.out.mono ?_; rintro e w1 ⟨rfl, F1, D1, O1, B1⟩)
      go_ret
      exact ⟨rfl, F1, D1, O1, B1⟩
  have next : errF S t = 0 ∨ errF S t = 7 → Calls Tryd.prog 46 #[.pointer (some ⟨d, 0, none⟩), .string t, .slice A n c] w (Did d F (writeS S t b) (.int .i64 (writeE S t b : Nat)) w) := by
    intro h1
    obtain ⟨S1, hS1⟩ : ∃ S1, S1 = removeS S t := ⟨_, rfl⟩
    rw [← hS1] at HR
    rcases errA_cases S1 t b with ha | ha | ha | ha
    · have e1 : writeS S t b = syncS (appendS S1 t b) t := by unfold writeS; rw [if_pos h1, ← hS1, if_pos ha]
      have e2 : writeE S t b = errF (appendS S1 t b) t := by unfold writeE; rw [if_pos h1, ← hS1, if_pos ha]
      rw [e1, e2]
      have HX0 := Lib.hid (fun (W : World) (F : List Nat) (hD : Disk W d F S1) (hs : Sl W A n (bvs b)) (hA : 0 < n → ∀ ad, A = some ad → ad.block ∉ F) => HX.out W F S1 hD hs hA)
      rw [ha] at HX0
      rcases h1 with h1 | h1
      all_goals
        rw [h1] at HR
        clear h1 e1 e2 hS1 HX ha h stop
        go_enter Tryd.func46, Tryd.ntmps46
        go_wp2_with (first
          | (go_at_call 42; refine (sync_one D2 t).mono ?_; rintro e w3 ⟨rfl, hD3⟩)
          | (go_at_call 41; refine (HX0.out _ _ D1 (HS.out.only' O1 HA.out) (far HS.out HA.out B1)).mono ?_; clear HX0; rintro e w2 ⟨rfl, hD2⟩; obtain ⟨F2, D2, O2, B2⟩ := chained O1 B1 hD2)
          | (go_at_call 34; refine HR.out.mono ?_; clear HR; rintro e w1 ⟨rfl, F1, D1, O1, B1⟩))
        go_ret
        exact Did.then O2 B2 ⟨rfl, hD3⟩
    all_goals
      have e1 : writeS S t b = S1 := by unfold writeS; rw [if_pos h1, ← hS1, if_neg (by omega)]
      have e2 : writeE S t b = errA S1 t b := by unfold writeE; rw [if_pos h1, ← hS1, if_neg (by omega)]
      rw [e1, e2]
      have e3 : appendS S1 t b = S1 := by unfold appendS; rw [if_neg (by omega)]
      have HX0 := Lib.hid (fun (W : World) (F : List Nat) (hD : Disk W d F S1) (hs : Sl W A n (bvs b)) (hA : 0 < n → ∀ ad, A = some ad → ad.block ∉ F) => HX.out W F S1 hD hs hA)
      rw [ha, e3] at HX0
      rw [ha]
      rcases h1 with h1 | h1
      all_goals
        rw [h1] at HR
        clear h1 e1 e2 e3 hS1 HX ha h stop
        go_enter Tryd.func46, Tryd.ntmps46
        go_wp2_with (first
          | (go_at_call 41; refine (HX0.out _ _ D1 (HS.out.only' O1 HA.out) (far HS.out HA.out B1)).mono ?_; clear HX0; rintro e w2 ⟨rfl, hD2⟩)
          | (go_at_call 34; refine HR.out.mono ?_; clear HR; rintro e w1 ⟨rfl, F1, D1, O1, B1⟩))
        go_ret
        exact Did.then O1 B1 ⟨rfl, hD2⟩
  rcases errF_cases S t with h1 | h1 | h1 | h1
  · exact next (.inl h1)
  · exact stop (.inl h1)
  · exact next (.inr h1)
  · exact stop (.inr h1)
theorem writeE_cases (S : St) (t : ByteArray) (b : List UInt8) : writeE S t b = 0 ∨ writeE S t b = 1 ∨ writeE S t b = 6 ∨ writeE S t b = 7 ∨ writeE S t b = 9 := by
  unfold writeE
  have h1 := errF_cases S t
  have h2 := errA_cases (removeS S t) t b
  have h3 := errF_cases (appendS (removeS S t) t b) t
  split
  · split <;> omega
  · omega
theorem bad_len {s : ByteArray} (h : okLen s = false) : s.size < 1 ∨ 60 < s.size := by
  unfold okLen at h
  simp at h
  omega
theorem good_len {s : ByteArray} (h : okLen s = true) : 1 ≤ s.size ∧ s.size ≤ 60 := by simpa [okLen] using h

set_option maxRecDepth 100000 in
theorem save_any (h : Disk w d F S) (s : ByteArray) (A : Option Addr) (n c : Nat) (ls : List (List UInt8)) (p : List UInt8) (hp : ls.flatten = p) (hr : Rw w A n ls) (ht : Tab w) (hn : n ≤ 4611686018427387904) (hb : p.length ≤ 1048576) :
    Calls Tryd.prog 30 #[.pointer (some ⟨d, 0, none⟩), .string s, .slice A n c] w (Did d F (saveS S s p) (.int .i64 (saveE S s p : Nat)) w) := by
  cases ho : okLen s with
  | false =>
    have e1 : saveS S s p = S := by unfold saveS; rw [ho]; rfl
    have e2 : saveE S s p = 1 := by unfold saveE; rw [ho]; rfl
    rw [e1, e2]
    have HD := Lib.hid h
    rcases bad_len ho with hz | hz
    all_goals
      clear e1 e2 ho h hr ht hp hb
      go_enter Tryd.func30, Tryd.ntmps30
      go_wp2
      go_ret
      exact did_same rfl HD.out (Only.refl _ _)
  | true =>
    obtain ⟨z1, z2⟩ := good_len ho
    have HE := Lib.hid (encode_rows A n c ls p w hp hr ht hn hb)
    have HD := Lib.hid h
    have e1 : saveS S s p = wholeS S s (record p) := by unfold saveS; rw [ho]; rfl
    have e2 : saveE S s p = wholeE S s (record p) := by unfold saveE; rw [ho]; rfl
    rw [e1, e2]
    obtain ⟨r, hr'⟩ : ∃ r, r = record p := ⟨_, rfl⟩
    rw [← hr'] at HE ⊢
    obtain ⟨S1, hS1⟩ : ∃ S1, S1 = writeS S (tilde s) r := ⟨_, rfl⟩
    have HX := Lib.hid (fun (W : World) (F : List Nat) (hD : Disk W d F S) (A : Option Addr) (n c : Nat) hl hs hA => write_any hD (tilde s) A n c r hl hs hA)
    rw [← hS1] at HX
    rcases writeE_cases S (tilde s) r with hw | hw | hw | hw | hw
    · have e1 : wholeS S s r = renameS S1 (tilde s) s := by unfold wholeS; rw [if_pos hw, ← hS1]
      have e2 : wholeE S s r = errR S1 (tilde s) s := by unfold wholeE; rw [if_pos hw, ← hS1]
      rw [e1, e2]
      rw [hw] at HX
      clear e1 e2 ho h hr ht hp hb hr' hw hS1
      go_enter Tryd.func30, Tryd.ntmps30
      go_wp2_with (first
        | (go_at_call 47; refine (rename_any D2 (tilde s) s).mono ?_; clear D2; rintro e w3 ⟨rfl, hD3⟩)
        | (go_at_call 46; refine (HX.out w1 F (HD.out.keep O1) A1 _ c1 rfl V1.sl (fun _ ad e hm => Nat.not_lt.2 (B1 _ (mem_blks e)) (HD.out.lt hm))).mono ?_; clear HX; rintro e w2 ⟨rfl, hD2⟩; obtain ⟨F2, D2, O2, B2⟩ := chained (F := F) (O1.mono fun _ h => by cases h) (fun _ h => .inl h) hD2)
        | (go_at_call 40; refine HE.out.mono ?_; clear HE; rintro e w1 ⟨A1, c1, rfl, V1, O1, B1⟩))
      go_ret
      exact Did.then O2 B2 ⟨rfl, hD3⟩
    all_goals
      have e1 : wholeS S s r = S1 := by unfold wholeS; rw [if_neg (by omega), ← hS1]
      have e2 : wholeE S s r = writeE S (tilde s) r := by unfold wholeE; rw [if_neg (by omega)]
      rw [e1, e2, hw]
      rw [hw] at HX
      clear e1 e2 ho h hr ht hp hb hr' hw hS1
      go_enter Tryd.func30, Tryd.ntmps30
      go_wp2_with (first
        | (go_at_call 46; refine (HX.out w1 F (HD.out.keep O1) A1 _ c1 rfl V1.sl (fun _ ad e hm => Nat.not_lt.2 (B1 _ (mem_blks e)) (HD.out.lt hm))).mono ?_; clear HX; rintro e w2 ⟨rfl, hD2⟩)
        | (go_at_call 40; refine HE.out.mono ?_; clear HE; rintro e w1 ⟨A1, c1, rfl, V1, O1, B1⟩))
      go_ret
      exact Did.then (F := F) (O1.mono fun _ h => by cases h) (fun _ h => .inl h) ⟨rfl, hD2⟩

theorem load_nil (s : ByteArray) : Calls Tryd.prog 35 #[.pointer none, .string s] w fun e w' => e = .returned (.tuple #[.slice none 0 0, .int .i64 1]) ∧ w = w' := by
  go_enter Tryd.func35, Tryd.ntmps35
  go_wp2
  go_ret2
  exact ⟨rfl, rfl⟩
theorem save_nil (s : ByteArray) (x : Value) : Calls Tryd.prog 30 #[.pointer none, .string s, x] w fun e w' => e = .returned (.int .i64 1) ∧ w = w' := by
  go_enter Tryd.func30, Tryd.ntmps30
  go_wp2
  go_ret
  exact ⟨rfl, rfl⟩
set_option maxRecDepth 100000 in
theorem load_any (h : Disk w d F S) (s : ByteArray) (hs : s.size ≤ maxLen) (ht : Tab w) : Calls Tryd.prog 35 #[.pointer (some ⟨d, 0, none⟩), .string s] w (Bytes (loadD S s) (loadE S s) w) := by
  have HT := Lib.hid ht
  have hlen : (readD S s).length ≤ 1073741824 := by
    obtain ⟨g1, g2, g3⟩ := h.good
    unfold readD
    cases hg : get S.fs s with
    | none => simp
    | some f => have := used_le (get_some hg).1; simp only []; omega
  obtain ⟨b, hb⟩ : ∃ b, b = readD S s := ⟨_, rfl⟩
  have HR := Lib.hid (read_any h s hs)
  rw [← hb] at HR hlen
  have h01 : readE S s = 0 ∨ readE S s = 7 := by
    unfold readE
    split
    · exact .inr rfl
    · exact .inl rfl
  rcases h01 with h0 | h0
  · by_cases h1 : oneBad b = 0
    · have e1 : loadE S s = 0 := by unfold loadE; rw [if_pos h0, ← hb, if_pos h1]
      have e2 : loadD S s = oneBody b := by unfold loadD; rw [if_pos h0, ← hb]
      rw [e1, e2]
      rw [h0] at HR
      have HX := Lib.hid (fun (W : World) (A : Option Addr) (n c : Nat) hs ht hc hn => one_any A n c b W hs ht hc hn)
      rw [h1] at HX
      have HL := Lib.hid hlen
      clear e1 e2 h0 h1 hb hlen ht h
      go_enter Tryd.func35, Tryd.ntmps35
      go_wp2_with (first
        | (go_at_call 51; refine (HX.out w1 A1 _ c1 V1.sl (HT.out.keep O1) V1.cap (by have := HL.out; omega)).mono ?_; clear HX; rintro e w2 ⟨A2, c2, rfl, V2, O2, B2⟩)
        | (go_at_call 19; refine HR.out.mono ?_; clear HR; rintro e w1 ⟨A1, c1, rfl, V1, O1, B1⟩))
      go_ret2
      exact ⟨A2, c2, rfl, V2, O1.then O2, fun k hk => Nat.le_trans O1.size (B2 k hk)⟩
    · have e1 : loadE S s = 3 := by unfold loadE; rw [if_pos h0, ← hb, if_neg h1]
      have e2 : loadD S s = [] := by unfold loadD; rw [if_pos h0, ← hb, oneBody, if_neg h1]
      have e3 : oneBody b = [] := by rw [oneBody, if_neg h1]
      rw [e1, e2]
      rw [h0] at HR
      obtain ⟨x, hx, hx0⟩ : ∃ x : Int, x = (oneBad b : Nat) ∧ x ≠ 0 := ⟨_, rfl, by omega⟩
      have HX := Lib.hid (fun (W : World) (A : Option Addr) (n c : Nat) hs ht hc hn => one_any A n c b W hs ht hc hn)
      rw [e3, ← hx] at HX
      have HL := Lib.hid hlen
      clear e1 e2 e3 h0 h1 hb hlen ht h hx
      go_enter Tryd.func35, Tryd.ntmps35
      go_wp2_with (first
        | (go_at_call 51; refine (HX.out w1 A1 _ c1 V1.sl (HT.out.keep O1) V1.cap (by have := HL.out; omega)).mono ?_; clear HX; rintro e w2 ⟨A2, c2, rfl, V2, O2, B2⟩)
        | (go_at_call 19; refine HR.out.mono ?_; clear HR; rintro e w1 ⟨A1, c1, rfl, V1, O1, B1⟩))
      go_ret2
      exact ⟨none, 0, rfl, Own.nil _ _, O1.then O2, fun _ hk => by cases hk⟩
  · have e1 : loadE S s = 7 := by unfold loadE; rw [if_neg (by omega)]
    have e2 : loadD S s = [] := by unfold loadD; rw [if_neg (by omega)]
    rw [e1, e2]
    rw [h0] at HR
    clear e1 e2 h0 hb hlen ht h
    go_enter Tryd.func35, Tryd.ntmps35
    go_wp2_with (go_at_call 19; refine HR.out.mono ?_; clear HR; rintro e w1 ⟨A1, c1, rfl, V1, O1, B1⟩)
    go_ret2
    exact ⟨none, 0, rfl, Own.nil _ _, O1, fun _ hk => by cases hk⟩
end
end Go.Proofs.YtblggoneifmoeaaDoor
