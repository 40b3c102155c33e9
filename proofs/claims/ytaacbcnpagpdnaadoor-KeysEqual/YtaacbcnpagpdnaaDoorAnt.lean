/- The calls of a cursor that take bytes: Bytes, Text, Bool; what each answers, and the cursor behind it, in plain words. -/
import Derived.Test.YtaacbcnpagpdnaaDoorAns
import Derived.WalkKit
import Derived.WalkSpells
import Derived.WalkLawsBesides
import Derived.Deep.QuietTactic
import Derived.BigQuiet
import Derived.Lib.Strings
namespace Go.Proofs.YtaacbcnpagpdnaaDoor
open Go.RowKit
def bytesA (s : ByteArray) (o : Nat) (er n : Int) : Ans ByteArray :=
  if er = 0 then (if n < 0 then ⟨⟨#[]⟩, o, 1⟩ else if (s.size : Int) - (o : Int) < n then ⟨⟨#[]⟩, o, 4⟩ else ⟨s.extract o (o + n.toNat), o + n.toNat, 0⟩) else ⟨⟨#[]⟩, o, er⟩
def textA (s : ByteArray) (o : Nat) (er m : Int) : Ans ByteArray :=
  if er = 0 then
    (if (cnt (tkA s o) (min m 1048576)).er = 0 then
      (if s.size < o + (cnt (tkA s o) (min m 1048576)).sz + (cnt (tkA s o) (min m 1048576)).n then ⟨⟨#[]⟩, o, 4⟩
       else ⟨s.extract (o + (cnt (tkA s o) (min m 1048576)).sz) (o + (cnt (tkA s o) (min m 1048576)).sz + (cnt (tkA s o) (min m 1048576)).n), o + (cnt (tkA s o) (min m 1048576)).sz + (cnt (tkA s o) (min m 1048576)).n, 0⟩)
     else ⟨⟨#[]⟩, o, (cnt (tkA s o) (min m 1048576)).er⟩)
  else ⟨⟨#[]⟩, o, er⟩
def byteAt (s : ByteArray) (o : Nat) : Nat := (s.data.toList.getD o 0).toNat
def boolA (s : ByteArray) (o : Nat) (er : Int) : Ans Bool :=
  if er = 0 then (if o < s.size then (if 1 < byteAt s o then ⟨false, o, 6⟩ else ⟨(byteAt s o : Int) == 1, o + 1, 0⟩) else ⟨false, o, 4⟩) else ⟨false, o, er⟩
end Go.Proofs.YtaacbcnpagpdnaaDoor
