/- What is taken of bytes as a value (takeA): plain facts. A clone of a value without parts and names (Clone, cloneAll). -/
import Derived.Test.YtniljoojoafiaaaGreatDoorXaf
import Derived.OwnWalk
import Derived.Laws.AppendOwnNone
namespace Go.Proofs.YtniljoojoafiaaaGreatDoor.V
open Go.RowKit
structure Tak where
  t : Tr
  o : Nat
  e : Int
structure St where
  ns : List ByteArray
  ts : List Tr
  o : Nat
  e : Int
def leafT (k : Int) (b : Bool) (n : Int) (s : ByteArray) : Tr := .mk k b n s 0 (fun _ => .no) 0 (fun _ => ⟨#[]⟩)
def nodeT (k : Int) (x : St) : Tr := .mk k false 0 ⟨#[]⟩ x.ts.length (fun i => x.ts.getD i .no) x.ns.length (fun i => x.ns.getD i ⟨#[]⟩)
def nameA (s : ByteArray) (six : Bool) (x : St) : Ans ByteArray := if six then textA s x.o x.e 16 else ⟨⟨#[]⟩, x.o, x.e⟩
def stepA (s : ByteArray) (six : Bool) (T : Nat → Int → Tak) (x : St) : St :=
  ⟨if six then x.ns ++ [(nameA s six x).v] else x.ns, x.ts ++ [(T (nameA s six x).o (nameA s six x).e).t], (T (nameA s six x).o (nameA s six x).e).o, (T (nameA s six x).o (nameA s six x).e).e⟩
def runA (s : ByteArray) (six : Bool) (T : Nat → Int → Tak) (x : St) : Nat → St
  | 0 => x
  | n + 1 => stepA s six T (runA s six T x n)
def nodeA (s : ByteArray) (k o : Nat) (T : Nat → Int → Tak) : Tak :=
  if k = 0 then ⟨leafT 0 false 0 ⟨#[]⟩, o, 0⟩
  else if k = 1 then ⟨leafT 1 (boolA s o 0).v 0 ⟨#[]⟩, (boolA s o 0).o, (boolA s o 0).e⟩
  else if k = 2 then ⟨leafT 2 false (zag (uintA s o 0).v) ⟨#[]⟩, (uintA s o 0).o, (uintA s o 0).e⟩
  else if k = 3 ∨ k = 4 then ⟨leafT k false 0 (textA s o 0 1024).v, (textA s o 0 1024).o, (textA s o 0 1024).e⟩
  else if k = 5 ∨ k = 6 then
    ⟨nodeT k (runA s (k == 6) T ⟨[], [], (countA s o 0 32).o, (countA s o 0 32).e⟩ (countA s o 0 32).v), (runA s (k == 6) T ⟨[], [], (countA s o 0 32).o, (countA s o 0 32).e⟩ (countA s o 0 32).v).o, (runA s (k == 6) T ⟨[], [], (countA s o 0 32).o, (countA s o 0 32).e⟩ (countA s o 0 32).v).e⟩
  else ⟨leafT k false 0 ⟨#[]⟩, o, 6⟩
def takeA (s : ByteArray) : Nat → Nat → Int → Tak
  | 0, o, e => ⟨leafT 0 false 0 ⟨#[]⟩, o, if e = 0 then 30 else e⟩
  | D + 1, o, e => if e = 0 then (if o < s.size then nodeA s (byteAt s o) (o + 1) (takeA s D) else ⟨leafT 0 false 0 ⟨#[]⟩, o, 4⟩) else ⟨leafT 0 false 0 ⟨#[]⟩, o, e⟩
set_option maxRecDepth 100000 in
theorem lies_leaf {S : Nat → Prop} {w : World} {k : Int} {b : Bool} {n : Int} {s : ByteArray} (hk : -9223372036854775808 ≤ k ∧ k < 9223372036854775808) (hn : -9223372036854775808 ≤ n ∧ n < 9223372036854775808) (hs : s.size ≤ maxLen) : LiesS S w (leafT k b n s) ⟨none, 0, none, 0⟩ :=
  .mk (fun _ => ⟨none, 0, none, 0⟩) hk hn hs ⟨Nat.le_refl _, Nat.zero_le _⟩ (fun h => by omega) (fun i hi => by omega) ⟨Nat.le_refl _, Nat.zero_le _, fun i hi => by omega, fun h => by omega⟩
end Go.Proofs.YtniljoojoafiaaaGreatDoor.V
namespace Go.Proofs.YtniljoojoafiaaaGreatDoor.V
open Go.RowKit
set_option maxRecDepth 100000 in
set_option maxHeartbeats 1000000 in
theorem cloneAll_none (a : Option Addr) (c : Nat) (w : World) : Calls Tryz.prog 61 #[.slice a 0 c] w fun r w' => r = .returned (.slice none 0 0) ∧ w' = w := by
  go_enter Tryz.func61, Tryz.ntmps61
  go_wp2
  go_ret
  exact ⟨rfl, rfl⟩
set_option maxRecDepth 100000 in
set_option maxHeartbeats 1000000 in
theorem clone_leaf (k : Int) (b : Bool) (n : Int) (s : ByteArray) (w : World) : Calls Tryz.prog 37 #[(leafT k b n s).val ⟨none, 0, none, 0⟩] w fun r w' => r = .returned ((leafT k b n s).val ⟨none, 0, none, 0⟩) ∧ Below w.heap.size w w' := by
  show Calls Tryz.prog 37 #[.agg #[.int .i64 k, .bool b, .int .i64 n, .string s, .slice none 0 0, .slice none 0 0]] w _
  go_enter Tryz.func37, Tryz.ntmps37
  go_wp2_with fail
  refine (cloneAll_none _ _ _).mono ?_
  rintro r w1 ⟨rfl, rfl⟩
  go_wp2
  exact bodyPost_ret (v := .agg #[.int .i64 k, .bool b, .int .i64 n, .string s, .slice none 0 0, .slice none 0 0]) (by simp [results, Tryz.results37, go_sem]) rfl ⟨rfl, ((Below.refl _ w).alloc (Nat.le_refl _) _).alloc (by simp) _⟩
end Go.Proofs.YtniljoojoafiaaaGreatDoor.V
