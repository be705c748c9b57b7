/-
  mime.Parts, Section, Count; the laws' known.
-/
import Derived.Test.YtakehogenioobaaDoorMBetween
import Derived.Test.YtakehogenioobaaDoorMType
namespace Go.Proofs.YtakehogenioobaaDoor
open Go.RowKit Go.Instr

theorem lows_le (l : List UInt8) : (lows l).length ≤ l.length := by simp [lows]
theorem bnds_len (M : Nat) : ∀ (ts : List (List UInt8)), (∀ t ∈ ts, t.length ≤ M) → (bnds ts).length ≤ M
  | [], _ => by simp [bnds]
  | t :: r, h => by
    rw [bnds]
    split
    · have h1 := h t (by simp)
      have h2 := trimB_len (t.drop (fi 61 t + 1))
      rw [List.length_drop] at h2
      have h3 : (bare (trimB (t.drop (fi 61 t + 1)))).length ≤ (trimB (t.drop (fi 61 t + 1))).length := by
        unfold bare
        split
        · rw [List.length_drop, List.length_take]; omega
        · exact Nat.le_refl _
      omega
    · exact bnds_len M r (fun x hx => h x (by simp [hx]))
theorem tyB_len (l : List UInt8) : (tyB l).length ≤ l.length := by
  have h1 := vl_len l
  unfold tyB bdOf
  refine bnds_len _ _ fun t ht => ?_
  have h2 := pcs_len _ t ht
  have h3 := drop_len_le (vlOf l) (fi 59 (vlOf l) + 1)
  omega
theorem blks_keep {w w' : World} {A : Option Addr} {rs : List Nat} (h : ∀ x ∈ blks A, x < w.heap.size) (o : Only rs w w') : ∀ x ∈ blks A, x < w'.heap.size := fun x hx => Nat.lt_of_lt_of_le (h x hx) o.size
section
variable {w : World} {A : Option Addr} {n c : Nat} {l : List UInt8}
theorem NewParts.back {w w1 : World} {G : List (Nat × Nat)} {e : Ending} {w' : World} (h : NewParts w1 G e w') (o : Only [] w w1) : NewParts w G e w' := by
  obtain ⟨A', c', h1, h2, h3, h4⟩ := h
  exact ⟨A', c', h1, h2, o.then h3, fun x hx => Nat.le_trans o.size (h4 x hx)⟩
set_option maxRecDepth 100000 in
set_option maxHeartbeats 2000000 in
theorem Parts_any (hs : Bt w A n c l) (hbig : n ≤ 4096) (hA : ∀ x ∈ blks A, x < w.heap.size) : Calls Tryd.prog 10 #[.slice A n c] w (NewParts w (parts l)) := by
  have hnl := hs.len
  have cT := Type_any hs hbig hA
  have hp : parts l = if tyM l ≠ muN ∨ tyB l = [] then [] else pout l ([45, 45] ++ tyB l) (hd l) (lns (l.drop (hd l))) := rfl
  have hbl := tyB_len l
  have hle := hd_le_n hs
  have cH := fun w1 (o : Only [] w w1) => Head_any (hs.keep o) (by omega) (blks_keep hA o)
  have hhl : (l.take (hd l)).length = hd l := by rw [List.length_take]; omega
  have cB := fun w1 (o : Only [] w w1) => between_any (hs.keep o) hbig (blks_keep hA o) (hd l) hle ([45, 45] ++ tyB l) (by rw [List.length_append]; show 2 + _ ≤ _; omega)
  obtain ⟨G, hG⟩ : ∃ G, parts l = G := ⟨_, rfl⟩
  rw [hG] at hp ⊢
  obtain ⟨P, hP⟩ : ∃ P, pout l ([45, 45] ++ tyB l) (hd l) (lns (l.drop (hd l))) = P := ⟨_, rfl⟩
  rw [hP] at hp cB
  obtain ⟨H, hH⟩ : ∃ H, l.take (hd l) = H := ⟨_, rfl⟩
  rw [hH] at cH hhl
  obtain ⟨h, hh⟩ : ∃ h, hd l = h := ⟨_, rfl⟩
  rw [hh] at cB hhl hle
  obtain ⟨ma, hma⟩ : ∃ ma, tyM l = ma := ⟨_, rfl⟩
  obtain ⟨bd, hbd⟩ : ∃ bd, tyB l = bd := ⟨_, rfl⟩
  rw [hma, hbd] at hp cT
  rw [hbd] at cB hbl
  obtain ⟨t1, ht1⟩ : ∃ t, St ma = t := ⟨_, rfl⟩
  obtain ⟨t2, ht2⟩ : ∃ t, St (tyS l) = t := ⟨_, rfl⟩
  obtain ⟨t3, ht3⟩ : ∃ t, St bd = t := ⟨_, rfl⟩
  obtain ⟨t4, ht4⟩ : ∃ t, St ([45, 45] ++ bd) = t := ⟨_, rfl⟩
  have hl1 : t1.toList = ma := by rw [← ht1, Lib.toList_data, St_list]
  have hl3 : t3.toList = bd := by rw [← ht3, Lib.toList_data, St_list]
  have hs3 : t3.size = bd.length := by rw [← ht3, St_size]
  rw [ht1, ht2, ht3] at cT
  rw [ht4] at cB
  have hadd := fun W => run_string_add_sum (P := Tryd.prog) (w := W) ⟨#[45, 45]⟩ t3 (by rw [hs3]; show 2 + bd.length ≤ _; omega)
  have h4 : (⟨#[45, 45]⟩ : ByteArray) ++ t3 = t4 := by
    rw [← ht4, ← ht3]
    refine St_ext ?_
    rw [ByteArray.data_append, Array.toList_append, St_list]
  rw [h4] at hadd
  have HP := Lib.hid hp
  have HHL := Lib.hid hhl
  clear hp hhl h4 hG hP hH hh hma hbd ht1 ht2 ht3 ht4 hs3 hs hnl hbl
  by_cases h1 : ma = muN
  · cases bd with
    | nil =>
      have HG : Hid (G = []) := by
        show _ = _
        rw [HP.out, if_pos (.inr rfl)]
      have q1 : (t1.toList == [109, 117, 108, 116, 105, 112, 97, 114, 116]) = true := by rw [hl1, h1]; decide
      clear h1 HP hl1 cB cH hadd
      go_enter Tryd.func10, Tryd.ntmps10
      go_wp2_with (go_at_call 14; (with_reducible refine cT.mono ?_); rintro e w1 ⟨rfl, hO1⟩)
      go_ret
      rw [HG.out]
      exact ⟨none, 0, rfl, Pt.nil _, hO1, fun _ hx => nomatch hx⟩
    | cons y bd =>
      have HG : Hid (G = P) := by
        show _ = _
        rw [HP.out, if_neg]
        rintro (h | h)
        · exact h h1
        · cases h
      have q1 : (t1.toList == [109, 117, 108, 116, 105, 112, 97, 114, 116]) = true := by rw [hl1, h1]; decide
      clear h1 HP hl1
      go_enter Tryd.func10, Tryd.ntmps10
      go_wp2_with first
        | (go_at_call 14; (with_reducible refine cT.mono ?_); rintro e w1 ⟨rfl, hO1⟩)
        | (go_at_call 16; (with_reducible refine (cH w1 hO1).mono ?_); rintro e w2 ⟨A2, c2, rfl, hV2, hO2, hB2⟩; rw [HHL.out])
        | (go_at_call 15; (with_reducible refine (cB _ (hO1.then hO2)).mono ?_); rintro e w3 ⟨A3, c3, rfl, hP3, hO3, hB3⟩)
      go_ret
      rw [HG.out]
      exact ⟨A3, c3, rfl, hP3, (hO1.then hO2).then hO3, fun x hx => Nat.le_trans (hO1.then hO2).size (hB3 x hx)⟩
  · have HG : Hid (G = []) := by
      show _ = _
      rw [HP.out, if_pos (.inl h1)]
    have q1 : (t1.toList == [109, 117, 108, 116, 105, 112, 97, 114, 116]) = false := by rw [hl1, beq_eq_false_iff_ne]; exact h1
    clear h1 HP hl1 cB cH hadd
    go_enter Tryd.func10, Tryd.ntmps10
    go_wp2_with (go_at_call 14; (with_reducible refine cT.mono ?_); rintro e w1 ⟨rfl, hO1⟩)
    go_ret
    rw [HG.out]
    exact ⟨none, 0, rfl, Pt.nil _, hO1, fun _ hx => nomatch hx⟩
end
end Go.Proofs.YtakehogenioobaaDoor
