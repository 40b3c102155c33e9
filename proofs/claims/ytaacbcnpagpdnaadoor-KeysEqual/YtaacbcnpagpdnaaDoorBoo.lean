/- The call of a cursor that takes yes or no (Bool). -/
import Derived.Test.YtaacbcnpagpdnaaDoorTxt
import Derived.WalkKit
import Derived.WalkSpells
import Derived.WalkLawsBesides
import Derived.Deep.QuietTactic
import Derived.BigQuiet
import Derived.Lib.Strings
namespace Go.Proofs.YtaacbcnpagpdnaaDoor
open Go.RowKit
theorem ext1 (s : ByteArray) (o : Nat) (h : o < s.size) : (s.extract o (o + 1)).data.toList = [s.data.toList.getD o 0] := by
  have hl : o < s.data.toList.length := by rw [← Lib.size_eq]; exact h
  rw [Lib.extract_data, List.drop_eq_getElem_cons hl, Nat.add_sub_cancel_left]
  rw [List.getD_eq_getElem?_getD, List.getElem?_eq_getElem hl]
  rfl
theorem ext1' (s : ByteArray) (o : Nat) (h : o < s.size) : s.extract o (o + 1) = ⟨#[s.data.toList.getD o 0]⟩ := by
  have e := ext1 s o h
  exact ByteArray.ext (Array.toList_inj.mp e)
end Go.Proofs.YtaacbcnpagpdnaaDoor
