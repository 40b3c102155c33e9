/- What is taken of bytes as a value (takeA): plain facts. -/
import Derived.Test.YtjmjlijmeahmfaaTwin
import Derived.Test.YtjmjlijmeahmfaaFst
namespace Go.Proofs.Ytjmjlijmeahmfaa
open Go.RowKit
structure Tak where
  t : Tr
  o : Nat
  e : Int
structure St where
  ns : List ByteArray
  ts : List Tr
  o : Nat
  e : Int
def leafT (k : Int) (b : Bool) (n : Int) (s : ByteArray) : Tr := .mk k b n s 0 (fun _ => .no) 0 (fun _ => ⟨#[]⟩)
def nodeT (k : Int) (x : St) : Tr := .mk k false 0 ⟨#[]⟩ x.ts.length (fun i => x.ts.getD i .no) x.ns.length (fun i => x.ns.getD i ⟨#[]⟩)
def nameA (s : ByteArray) (six : Bool) (x : St) : Ans ByteArray := if six then textA s x.o x.e 16 else ⟨⟨#[]⟩, x.o, x.e⟩
def stepA (s : ByteArray) (six : Bool) (T : Nat → Int → Tak) (x : St) : St :=
  ⟨if six then x.ns ++ [(nameA s six x).v] else x.ns, x.ts ++ [(T (nameA s six x).o (nameA s six x).e).t], (T (nameA s six x).o (nameA s six x).e).o, (T (nameA s six x).o (nameA s six x).e).e⟩
def runA (s : ByteArray) (six : Bool) (T : Nat → Int → Tak) (x : St) : Nat → St
  | 0 => x
  | n + 1 => stepA s six T (runA s six T x n)
def nodeA (s : ByteArray) (k o : Nat) (T : Nat → Int → Tak) : Tak :=
  if k = 0 then ⟨leafT 0 false 0 ⟨#[]⟩, o, 0⟩
  else if k = 1 then ⟨leafT 1 (boolA s o 0).v 0 ⟨#[]⟩, (boolA s o 0).o, (boolA s o 0).e⟩
  else if k = 2 then ⟨leafT 2 false (zag (uintA s o 0).v) ⟨#[]⟩, (uintA s o 0).o, (uintA s o 0).e⟩
  else if k = 3 ∨ k = 4 then ⟨leafT k false 0 (textA s o 0 1024).v, (textA s o 0 1024).o, (textA s o 0 1024).e⟩
  else if k = 5 ∨ k = 6 then
    ⟨nodeT k (runA s (k == 6) T ⟨[], [], (countA s o 0 32).o, (countA s o 0 32).e⟩ (countA s o 0 32).v), (runA s (k == 6) T ⟨[], [], (countA s o 0 32).o, (countA s o 0 32).e⟩ (countA s o 0 32).v).o, (runA s (k == 6) T ⟨[], [], (countA s o 0 32).o, (countA s o 0 32).e⟩ (countA s o 0 32).v).e⟩
  else ⟨leafT k false 0 ⟨#[]⟩, o, 6⟩
def takeA (s : ByteArray) : Nat → Nat → Int → Tak
  | 0, o, e => ⟨leafT 0 false 0 ⟨#[]⟩, o, if e = 0 then 30 else e⟩
  | D + 1, o, e => if e = 0 then (if o < s.size then nodeA s (byteAt s o) (o + 1) (takeA s D) else ⟨leafT 0 false 0 ⟨#[]⟩, o, 4⟩) else ⟨leafT 0 false 0 ⟨#[]⟩, o, e⟩
def TakeC (s : ByteArray) (d : Int) (T : Nat → Int → Tak) : Prop := ∀ (w : World) (b o : Nat) (e : Int), Cur w b s (o : Int) e → o ≤ s.size →
  Calls Try.prog 42 #[.pointer (some ⟨b, 0, none⟩), .int .i64 d] w fun r w' => ∃ A : Ad, r = .returned ((T o e).t.val A) ∧ LiesS (fun k => w.heap.size ≤ k ∧ k < w'.heap.size) w' (T o e).t A ∧ Cur w' b s ((T o e).o : Int) (T o e).e ∧ Only b w w' ∧ (T o e).o ≤ s.size
theorem lies_leaf {S : Nat → Prop} {w : World} {k : Int} {b : Bool} {n : Int} {s : ByteArray} (hk : -9223372036854775808 ≤ k ∧ k < 9223372036854775808) (hn : -9223372036854775808 ≤ n ∧ n < 9223372036854775808) (hs : s.size ≤ maxLen) : LiesS S w (leafT k b n s) ⟨none, 0, none, 0⟩ :=
  .mk (fun _ => ⟨none, 0, none, 0⟩) hk hn hs ⟨Nat.le_refl _, Nat.zero_le _⟩ (fun h => by omega) (fun i hi => by omega) ⟨Nat.le_refl _, Nat.zero_le _, fun i hi => by omega, fun h => by omega⟩
end Go.Proofs.Ytjmjlijmeahmfaa
