/-
  The document's Next, whole; the laws' own sample (line): known is true.
-/
import Derived.Test.YtiekhgignmbaeaaLRefD0
import Derived.Test.YtiekhgignmbaeaaLRefD1
import Derived.Test.YtiekhgignmbaeaaLRefD2
namespace Go.Proofs.Ytiekhgignmbaeaa
open Go.RowKit Go.Instr

theorem refNext_any {w : World} {g : Nat} {F : List Nat} {s : LS} (h : Ln true w g F s) : Calls Try.prog 15 #[.pointer (some ⟨g, 0, none⟩)] w (Spoke true w g F (nextS s) (nextR s)) := by
  cases hm : s.lit with
  | some m => exact ref_lit h m hm
  | none =>
    by_cases hn : nl s.b < s.b.length
    · rcases tr_line hn with ⟨hj, hT⟩ | ⟨i, hi, hj, hx, hT⟩ | ⟨i, hi, hj, hx, hT⟩
      · cases hd : s.drop
        · exact ref_line0 h hm hn hj hT hd
        · exact ref_long0 h hm hn hj hT hd
      · cases hd : s.drop
        · by_cases hl : 300 < i
          · exact ref_long1 h hm hn i hi hj hx hT (.inr ⟨hd, by omega⟩)
          · exact ref_line1 h hm hn i hi hj hx hT hd (by omega)
        · exact ref_long1 h hm hn i hi hj hx hT (.inl hd)
      · cases hd : s.drop
        · by_cases hl : 300 < i + 1
          · exact ref_long2 h hm hn i hi hj hx hT (.inr ⟨hd, by omega⟩)
          · exact ref_line2 h hm hn i hi hj hx hT hd (by omega)
        · exact ref_long2 h hm hn i hi hj hx hT (.inl hd)
    · exact ref_wait h hm hn
end Go.Proofs.Ytiekhgignmbaeaa
