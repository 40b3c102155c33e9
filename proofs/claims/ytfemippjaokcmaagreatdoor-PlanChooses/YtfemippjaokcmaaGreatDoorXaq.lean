/- Plain facts of numbers in bytes: what is taken of bytes (tk), the bytes of a number (put), and that the two are each other's. What a call leaves as it was (Only), a cursor's block (Cur), and the small calls of a cursor: Err, Off, Fail, skip, At; each of a nil cursor and of one that is there. A value as a tree (Tr), what its memory holds (Lies), and that it stays where only new memory is made. The number with which bytes begin (first): of any bytes, at most 8192, the call returns what the plain facts take of them, and changes nothing. The bytes of a number (Uint): of any number the call returns the bytes that the plain facts have, and nothing that was there has changed. The document's bytes of a number (Uint): of any number the call returns the bytes that the plain facts have, and nothing that was there has changed. The calls of a cursor that look ahead: number, count, piece; of a nil cursor, of one that has an error, and of one that has none. The calls of a cursor that take something: Uint, Int, Count, Bytes, Text, Bool, and End; what each answers, and the cursor behind it, in plain words (the functions ..A). The calls of a cursor that take something: Uint, Int, Count, Bytes, Text, Bool; what each answers, and the cursor behind it, in plain words (the functions ..A). The calls of a cursor that take bytes: Bytes, Text, Bool; what each answers, and the cursor behind it, in plain words. The calls of a cursor that take a text, and yes or no (Text, Bool). The call of a cursor that takes yes or no (Bool). The numbers that may be below 0, in bytes (enc.Int and the document's). Texts and yes or no, in bytes (enc.Text, enc.Bool and the document's). -/
import Derived.Test.YtfemippjaokcmaaGreatDoorRows
import Derived.WalkKit
import Derived.WalkSpells
import Derived.WalkLawsBesides
import Derived.Deep.QuietTactic
import Derived.BigQuiet
import Derived.Lib.Strings
import Derived.Laws.BitsAllLaws
import Derived.Deep.RegionWith
namespace Go.Proofs.YtfemippjaokcmaaGreatDoor.V
structure Tk where
  n : Nat
  sz : Nat
  er : Int
def tk : Nat → Nat → List UInt8 → Tk
  | _, _, [] => ⟨0, 0, 4⟩
  | n, i, b :: r =>
    if (0 < i ∧ b.toNat = 0) ∨ (i = 9 ∧ 1 < b.toNat) then ⟨0, 0, 6⟩
    else if b.toNat < 128 then ⟨n + b.toNat % 128 * 128 ^ i, i + 1, 0⟩
    else tk (n + b.toNat % 128 * 128 ^ i) (i + 1) r
def put (n : Nat) : List UInt8 := if n < 128 then [UInt8.ofNat n] else UInt8.ofNat (n % 128 + 128) :: put (n / 128)
  termination_by n
  decreasing_by omega
set_option maxRecDepth 100000 in
theorem toNat_ofNat_lt {n : Nat} (h : n < 256) : (UInt8.ofNat n).toNat = n := by
  rw [UInt8.toNat_ofNat']; omega
end Go.Proofs.YtfemippjaokcmaaGreatDoor.V
namespace Go.Proofs.YtfemippjaokcmaaGreatDoor.V
open Go.RowKit
structure Only (b : Nat) (w w' : World) : Prop where
  os : w'.os = w.os
  tape : w'.tape = w.tape
  output : w'.output = w.output
  size : w.heap.size ≤ w'.heap.size
  block : ∀ k, k < w.heap.size → k ≠ b → w'.heap[k]? = w.heap[k]?
set_option maxRecDepth 100000 in
theorem Only.refl (b : Nat) (w : World) : Only b w w := ⟨rfl, rfl, rfl, Nat.le_refl _, fun _ _ _ => rfl⟩
set_option maxRecDepth 100000 in
theorem Only.trans {b : Nat} {u v w : World} (h : Only b u v) (k : Only b v w) : Only b u w :=
  ⟨k.os.trans h.os, k.tape.trans h.tape, k.output.trans h.output, Nat.le_trans h.size k.size, fun i hi hb => (k.block i (Nat.lt_of_lt_of_le hi h.size) hb).trans (h.block i hi hb)⟩
set_option maxRecDepth 100000 in
theorem Only.setCell {b : Nat} {u v : World} (h : Only b u v) (o : Nat) (x : Value) : Only b u (v.setCell ⟨b, o, none⟩ x) :=
  ⟨h.os, h.tape, h.output, by simpa using h.size, fun k hk hb => (Below.heap_setCell v ⟨b, o, none⟩ x k hb).trans (h.block k hk hb)⟩
set_option maxRecDepth 100000 in
theorem Only.ofBelow {b : Nat} {u v : World} (h : Below u.heap.size u v) : Only b u v := ⟨h.os, h.tape, h.output, h.size, fun k hk _ => h.block k hk⟩
set_option maxRecDepth 100000 in
theorem Only.below {b B : Nat} {u v : World} (h : Only b u v) (hb : B ≤ b) (hB : B ≤ u.heap.size) : Below B u v :=
  ⟨h.os, h.tape, h.output, h.size, fun k hk => h.block k (by omega) (by omega)⟩
set_option maxRecDepth 100000 in
theorem lt_of_row {W : World} {g : Nat} {o : Obj} (h1 : W.heap[g]? = some o) : g < W.heap.size := by
  rcases Nat.lt_or_ge g W.heap.size with h | h
  · exact h
  · rw [Array.getElem?_eq_none h] at h1; cases h1
set_option maxRecDepth 100000 in
theorem row_setCell {W : World} {g k : Nat} {cs : Array Value} {t : TypeId} {fr : Nat × Nat} (h : W.heap[g]? = some (.cells cs t fr)) (x : Value) :
    (W.setCell ⟨g, k, none⟩ x).heap[g]? = some (.cells (cs.setIfInBounds k x) t fr) := by
  have hl := lt_of_row h
  rw [Array.getElem?_eq_getElem hl] at h
  injection h with h
  unfold World.setCell
  rw [Array.getElem?_modify]
  simp [hl, h]
end Go.Proofs.YtfemippjaokcmaaGreatDoor.V
namespace Go.Proofs.YtfemippjaokcmaaGreatDoor.V
open Go.RowKit
inductive Tr where
  | no : Tr
  | mk (k : Int) (b : Bool) (n : Int) (s : ByteArray) (m : Nat) (f : Nat → Tr) (q : Nat) (g : Nat → ByteArray) : Tr
def Tr.k : Tr → Int | .no => 0 | .mk k _ _ _ _ _ _ _ => k
def Tr.b : Tr → Bool | .no => false | .mk _ b _ _ _ _ _ _ => b
def Tr.n : Tr → Int | .no => 0 | .mk _ _ n _ _ _ _ _ => n
def Tr.s : Tr → ByteArray | .no => ⟨#[]⟩ | .mk _ _ _ s _ _ _ _ => s
def Tr.m : Tr → Nat | .no => 0 | .mk _ _ _ _ m _ _ _ => m
def Tr.f : Tr → Nat → Tr | .no => fun _ => .no | .mk _ _ _ _ _ f _ _ => f
def Tr.q : Tr → Nat | .no => 0 | .mk _ _ _ _ _ _ q _ => q
def Tr.g : Tr → Nat → ByteArray | .no => fun _ => ⟨#[]⟩ | .mk _ _ _ _ _ _ _ g => g
structure Ad where
  pa : Option Addr
  pc : Nat
  na : Option Addr
  nc : Nat
def Tr.cs (t : Tr) (x : Ad) : List Value := [.int .i64 t.k, .bool t.b, .int .i64 t.n, .string t.s, .slice x.pa t.m x.pc, .slice x.na t.q x.nc]
def Tr.val (t : Tr) (x : Ad) : Value := .agg #[.int .i64 t.k, .bool t.b, .int .i64 t.n, .string t.s, .slice x.pa t.m x.pc, .slice x.na t.q x.nc]
structure At6 (w : World) (b o : Nat) (t : Tr) (x : Ad) : Prop where
  c0 : w.cell? ⟨b, o, none⟩ = some (.int .i64 t.k)
  c1 : w.cell? ⟨b, o + 1, none⟩ = some (.bool t.b)
  c2 : w.cell? ⟨b, o + 2, none⟩ = some (.int .i64 t.n)
  c3 : w.cell? ⟨b, o + 3, none⟩ = some (.string t.s)
  c4 : w.cell? ⟨b, o + 4, none⟩ = some (.slice x.pa t.m x.pc)
  c5 : w.cell? ⟨b, o + 5, none⟩ = some (.slice x.na t.q x.nc)
def NamesS (S : Nat → Prop) (w : World) (q : Nat) (g : Nat → ByteArray) (na : Option Addr) (nc : Nat) : Prop :=
  q ≤ nc ∧ nc ≤ maxLen ∧ (∀ i, i < q → (g i).size ≤ maxLen) ∧ (0 < q → ∃ b o, na = some ⟨b, o, none⟩ ∧ S b ∧ ∀ i, i < q → w.cell? ⟨b, o + i, none⟩ = some (.string (g i)))
def Names (B : Nat) : World → Nat → (Nat → ByteArray) → Option Addr → Nat → Prop := NamesS (fun k => k < B)
inductive LiesS (S : Nat → Prop) (w : World) : Tr → Ad → Prop where
  | mk {k : Int} {b : Bool} {n : Int} {s : ByteArray} {m : Nat} {f : Nat → Tr} {q : Nat} {g : Nat → ByteArray} {x : Ad}
      (A : Nat → Ad)
      (hk : -9223372036854775808 ≤ k ∧ k < 9223372036854775808) (hn : -9223372036854775808 ≤ n ∧ n < 9223372036854775808) (hs : s.size ≤ maxLen)
      (hm : m ≤ x.pc ∧ x.pc ≤ maxLen)
      (hp : 0 < m → ∃ b o, x.pa = some ⟨b, o, none⟩ ∧ S b ∧ ∀ i, i < m → At6 w b (o + i * 6) (f i) (A i))
      (hr : ∀ i, i < m → LiesS S w (f i) (A i))
      (hq : NamesS S w q g x.na x.nc) : LiesS S w (.mk k b n s m f q g) x
def Lies (B : Nat) : World → Tr → Ad → Prop := LiesS (fun k => k < B)
set_option maxRecDepth 100000 in
theorem block_lt {W : World} {x : Addr} {v : Value} (h : W.cell? x = some v) : x.block < W.heap.size := by
  rcases Nat.lt_or_ge x.block W.heap.size with k | k
  · exact k
  · unfold World.cell? at h
    rw [Array.getElem?_eq_none k] at h
    cases h
set_option maxRecDepth 100000 in
theorem cell_kept {w w' : World} {a : Addr} {v : Value} (h : w.cell? a = some v) (hb : w'.heap[a.block]? = w.heap[a.block]?) : w'.cell? a = some v := by
  rw [← h]
  exact World.cell?_of_block hb
set_option maxRecDepth 100000 in
theorem cell_later {w w' : World} {a : Addr} {v : Value} {B : Nat} (h : w.cell? a = some v) (ha : a.block < B) (hb : Below B w w') : w'.cell? a = some v := cell_kept h (hb.block _ ha)
set_option maxRecDepth 100000 in
theorem At6.kept {w w' : World} {b o : Nat} {t : Tr} {x : Ad} (h : At6 w b o t x) (hb : w'.heap[b]? = w.heap[b]?) : At6 w' b o t x :=
  ⟨cell_kept h.c0 hb, cell_kept h.c1 hb, cell_kept h.c2 hb, cell_kept h.c3 hb, cell_kept h.c4 hb, cell_kept h.c5 hb⟩
set_option maxRecDepth 100000 in
theorem At6.later {B : Nat} {w w' : World} {b o : Nat} {t : Tr} {x : Ad} (h : At6 w b o t x) (hB : b < B) (hb : Below B w w') : At6 w' b o t x := h.kept (hb.block b hB)
set_option maxRecDepth 100000 in
theorem NamesS.kept {S : Nat → Prop} {w w' : World} {q : Nat} {g : Nat → ByteArray} {na : Option Addr} {nc : Nat} (hk : ∀ k, S k → w'.heap[k]? = w.heap[k]?) (h : NamesS S w q g na nc) : NamesS S w' q g na nc := by
  obtain ⟨h1, h2, h3, h4⟩ := h
  refine ⟨h1, h2, h3, fun h0 => ?_⟩
  obtain ⟨b, o, h5, h7, h6⟩ := h4 h0
  exact ⟨b, o, h5, h7, fun i hi => cell_kept (h6 i hi) (hk b h7)⟩
set_option maxRecDepth 100000 in
theorem LiesS.kept {S : Nat → Prop} {w w' : World} (hk : ∀ k, S k → w'.heap[k]? = w.heap[k]?) {t : Tr} {x : Ad} (h : LiesS S w t x) : LiesS S w' t x := by
  induction h with
  | mk A h1 hn hs hm hp _ hq ih =>
    refine .mk A h1 hn hs hm (fun h0 => ?_) ih (hq.kept hk)
    obtain ⟨b, o, h1, h3, h2⟩ := hp h0
    exact ⟨b, o, h1, h3, fun i hi => (h2 i hi).kept (hk b h3)⟩
set_option maxRecDepth 100000 in
theorem NamesS.up {S T : Nat → Prop} (hST : ∀ k, S k → T k) {w : World} {q : Nat} {g : Nat → ByteArray} {na : Option Addr} {nc : Nat} (h : NamesS S w q g na nc) : NamesS T w q g na nc := by
  obtain ⟨h1, h2, h3, h4⟩ := h
  refine ⟨h1, h2, h3, fun h0 => ?_⟩
  obtain ⟨b, o, h5, h7, h6⟩ := h4 h0
  exact ⟨b, o, h5, hST b h7, h6⟩
set_option maxRecDepth 100000 in
theorem LiesS.up {S T : Nat → Prop} (hST : ∀ k, S k → T k) {w : World} {t : Tr} {x : Ad} (h : LiesS S w t x) : LiesS T w t x := by
  induction h with
  | mk A hk hn hs hm hp _ hq ih =>
    refine .mk A hk hn hs hm (fun h0 => ?_) ih (hq.up hST)
    obtain ⟨b, o, h1, h3, h2⟩ := hp h0
    exact ⟨b, o, h1, hST b h3, h2⟩
set_option maxRecDepth 100000 in
theorem Names.later {B : Nat} {w w' : World} {q : Nat} {g : Nat → ByteArray} {na : Option Addr} {nc : Nat} (h : Names B w q g na nc) (hb : Below B w w') : Names B w' q g na nc := NamesS.kept (fun k hk => hb.block k hk) h
set_option maxRecDepth 100000 in
theorem Lies.later {B : Nat} {w w' : World} (hb : Below B w w') {t : Tr} {x : Ad} (h : Lies B w t x) : Lies B w' t x := LiesS.kept (fun k hk => hb.block k hk) h
set_option maxRecDepth 100000 in
theorem Lies.up {B C : Nat} (hBC : B ≤ C) {w : World} {t : Tr} {x : Ad} (h : Lies B w t x) : Lies C w t x := LiesS.up (fun _ hk => Nat.lt_of_lt_of_le hk hBC) h
set_option maxRecDepth 100000 in
theorem LiesS.part {S : Nat → Prop} {w : World} {k : Int} {b : Bool} {n : Int} {s : ByteArray} {m : Nat} {f : Nat → Tr} {q : Nat} {g : Nat → ByteArray} {x : Ad} (h : LiesS S w (.mk k b n s m f q g) x) :
    ∃ A : Nat → Ad, (0 < m → ∃ b o, x.pa = some ⟨b, o, none⟩ ∧ S b ∧ ∀ i, i < m → At6 w b (o + i * 6) (f i) (A i)) ∧ ∀ i, i < m → LiesS S w (f i) (A i) := by
  cases h with
  | mk A _ _ _ _ hp hr _ => exact ⟨A, hp, hr⟩
set_option maxRecDepth 100000 in
theorem Lies.part {B : Nat} {w : World} {k : Int} {b : Bool} {n : Int} {s : ByteArray} {m : Nat} {f : Nat → Tr} {q : Nat} {g : Nat → ByteArray} {x : Ad} (h : Lies B w (.mk k b n s m f q g) x) :
    ∃ A : Nat → Ad, (0 < m → ∃ b o, x.pa = some ⟨b, o, none⟩ ∧ b < B ∧ ∀ i, i < m → At6 w b (o + i * 6) (f i) (A i)) ∧ ∀ i, i < m → Lies B w (f i) (A i) := LiesS.part h
set_option maxRecDepth 100000 in
theorem LiesS.lims {S : Nat → Prop} {w : World} {t : Tr} {x : Ad} (h : LiesS S w t x) :
    (-9223372036854775808 ≤ t.k ∧ t.k < 9223372036854775808) ∧ (-9223372036854775808 ≤ t.n ∧ t.n < 9223372036854775808) ∧ t.s.size ≤ maxLen ∧ (t.m ≤ x.pc ∧ x.pc ≤ maxLen) ∧ NamesS S w t.q t.g x.na x.nc := by
  cases h with
  | mk A hk hn hs hm hp hr hq => exact ⟨hk, hn, hs, hm, hq⟩
set_option maxRecDepth 100000 in
theorem Lies.lims {B : Nat} {w : World} {t : Tr} {x : Ad} (h : Lies B w t x) :
    (-9223372036854775808 ≤ t.k ∧ t.k < 9223372036854775808) ∧ (-9223372036854775808 ≤ t.n ∧ t.n < 9223372036854775808) ∧ t.s.size ≤ maxLen ∧ (t.m ≤ x.pc ∧ x.pc ≤ maxLen) ∧ Names B w t.q t.g x.na x.nc := LiesS.lims h
set_option maxRecDepth 100000 in
theorem LiesS.no {S : Nat → Prop} {w : World} {x : Ad} (h : LiesS S w .no x) : False := by cases h
set_option maxRecDepth 100000 in
theorem Lies.no {B : Nat} {w : World} {x : Ad} (h : Lies B w .no x) : False := LiesS.no h
end Go.Proofs.YtfemippjaokcmaaGreatDoor.V
namespace Go.Proofs.YtfemippjaokcmaaGreatDoor.V
open Go.RowKit
set_option maxRecDepth 100000 in
theorem drop_at (s : ByteArray) (i : Nat) (h : i < s.size) : s.data.toList.drop i = s[i] :: s.data.toList.drop (i + 1) := by
  have hl : i < s.data.toList.length := by simpa using h
  rw [List.drop_eq_getElem_cons hl]; rfl
end Go.Proofs.YtfemippjaokcmaaGreatDoor.V
namespace Go.Proofs.YtfemippjaokcmaaGreatDoor.V
open Go.RowKit
def bcs (l : List UInt8) : Array Value := (Lib.byteCells l).toArray
set_option maxRecDepth 100000 in
theorem bcs_get (l : List UInt8) (i : Nat) (hi : i < l.length) : (bcs l)[i]? = some (.int .u8 ((l.getD i 0).toNat : Int)) := by
  simp [bcs, Lib.byteCells, List.getD_eq_getElem?_getD, hi]
set_option maxRecDepth 100000 in
theorem bcs_set (l : List UInt8) (n : Nat) (b : UInt8) : (bcs l).setIfInBounds n (.int .u8 (b.toNat : Int)) = bcs (l.set n b) := by
  unfold bcs Lib.byteCells
  rw [List.map_set, List.setIfInBounds_toArray]
set_option maxRecDepth 100000 in
theorem brow_cell {W : World} {g : Nat} {l : List UInt8} {t : TypeId} {fr : Nat × Nat} (h : W.heap[g]? = some (.cells (bcs l) t fr)) (i : Nat) (hi : i < l.length) : W.cell? ⟨g, i, none⟩ = some (.int .u8 ((l.getD i 0).toNat : Int)) := by
  rw [cell_of_row W g i _ t fr h, bcs_get l i hi]
set_option maxRecDepth 100000 in
theorem brow_set {W : World} {g : Nat} {l : List UInt8} {t : TypeId} (h : W.heap[g]? = some (.cells (bcs l) t (0, 0))) (n : Nat) (b : UInt8) (v : Int) (hv : v = (b.toNat : Int)) :
    (W.setCell ⟨g, n, none⟩ (.int .u8 v)).heap[g]? = some (.cells (bcs (l.set n b)) t (0, 0)) := by
  rw [row_setCell h, hv, bcs_set]
def padz (m : Nat) (l : List UInt8) : List UInt8 := l ++ List.replicate (m - l.length) 0
set_option maxRecDepth 100000 in
theorem padz_len (m : Nat) (l : List UInt8) (h : l.length ≤ m) : (padz m l).length = m := by simp [padz]; omega
set_option maxRecDepth 100000 in
theorem padz_set (m : Nat) (l : List UInt8) (x : UInt8) (n : Nat) (hn : n = l.length) (h : l.length < m) : (padz m l).set n x = padz m (l ++ [x]) := by
  subst hn
  unfold padz
  obtain ⟨q, hq⟩ : ∃ q, m - l.length = q + 1 := ⟨m - l.length - 1, by omega⟩
  have hq' : m - (l ++ [x]).length = q := by simp; omega
  rw [hq, hq', List.set_append_right _ _ (Nat.le_refl _), Nat.sub_self, List.replicate_succ, List.set_cons_zero]
  simp
set_option maxRecDepth 100000 in
theorem zero10 : (#[Value.int IntKind.u8 0, Value.int IntKind.u8 0, Value.int IntKind.u8 0, Value.int IntKind.u8 0, Value.int IntKind.u8 0, Value.int IntKind.u8 0, Value.int IntKind.u8 0, Value.int IntKind.u8 0, Value.int IntKind.u8 0, Value.int IntKind.u8 0] : Array Value) = bcs (padz 10 []) := rfl
end Go.Proofs.YtfemippjaokcmaaGreatDoor.V
namespace Go.Proofs.YtfemippjaokcmaaGreatDoor.V
open Go.RowKit
set_option maxRecDepth 100000 in
theorem conv1w (W : World) (g : Nat) (b : UInt8) (v : Int) (hv : v = (b.toNat : Int)) (hc : W.cell? ⟨g, 0, none⟩ = some (.int .u8 v)) : (convert 84 9 (.slice (some ⟨g, 0, none⟩) 1 1)).run Tryz.prog W = .ok (.string ⟨#[b]⟩) W := by
  refine run_convert_bytes_back (P := Tryz.prog) W 84 9 5 ⟨g, 0, none⟩ 1 [b] Tryz.underlying84 Tryz.underlying5 Tryz.underlying9 (fun j hj => ?_)
  obtain rfl : j = 0 := by simp at hj; omega
  have e : (⟨g, 0, none⟩ : Addr).add 0 = ⟨g, 0, none⟩ := by unfold Addr.add; split <;> simp_all
  rw [e, hc, hv]; rfl
set_option maxRecDepth 100000 in
theorem conv1 (W : World) (b : UInt8) (t : TypeId) (v : Int) (hv : v = (b.toNat : Int)) : (convert 84 9 (.slice (some ⟨W.heap.size, 0, none⟩) 1 1)).run Tryz.prog (W.alloc (.cells #[.int .u8 v] t)) = .ok (.string ⟨#[b]⟩) (W.alloc (.cells #[.int .u8 v] t)) :=
  conv1w _ _ b v hv (cell_of_row _ _ 0 _ _ _ (heap_alloc_new _ _))
end Go.Proofs.YtfemippjaokcmaaGreatDoor.V
namespace Go.Proofs.YtfemippjaokcmaaGreatDoor.V
open Go.RowKit
def cnt (T : Tk) (most : Int) : Tk := if T.er = 0 ∧ (most < 0 ∨ most < (T.n : Int)) then ⟨0, 0, 3⟩ else T
end Go.Proofs.YtfemippjaokcmaaGreatDoor.V
namespace Go.Proofs.YtfemippjaokcmaaGreatDoor.V
open Go.RowKit
end Go.Proofs.YtfemippjaokcmaaGreatDoor.V
namespace Go.Proofs.YtfemippjaokcmaaGreatDoor.V
open Go.RowKit
structure Ans (α : Type) where
  v : α
  o : Nat
  e : Int
def tkA (s : ByteArray) (o : Nat) : Tk := tk 0 0 (s.data.toList.drop o)
def uintA (s : ByteArray) (o : Nat) (er : Int) : Ans Nat := if er = 0 then ⟨(tkA s o).n, o + (tkA s o).sz, (tkA s o).er⟩ else ⟨0, o, er⟩
def zag (n : Nat) : Int := if n % 2 = 1 then -((n / 2 : Nat) : Int) - 1 else ((n / 2 : Nat) : Int)
def countA (s : ByteArray) (o : Nat) (er m : Int) : Ans Nat := if er = 0 then ⟨(cnt (tkA s o) m).n, o + (cnt (tkA s o) m).sz, (cnt (tkA s o) m).er⟩ else ⟨0, o, er⟩
end Go.Proofs.YtfemippjaokcmaaGreatDoor.V
namespace Go.Proofs.YtfemippjaokcmaaGreatDoor.V
open Go.RowKit
def textA (s : ByteArray) (o : Nat) (er m : Int) : Ans ByteArray :=
  if er = 0 then
    (if (cnt (tkA s o) (min m 1048576)).er = 0 then
      (if s.size < o + (cnt (tkA s o) (min m 1048576)).sz + (cnt (tkA s o) (min m 1048576)).n then ⟨⟨#[]⟩, o, 4⟩
       else ⟨s.extract (o + (cnt (tkA s o) (min m 1048576)).sz) (o + (cnt (tkA s o) (min m 1048576)).sz + (cnt (tkA s o) (min m 1048576)).n), o + (cnt (tkA s o) (min m 1048576)).sz + (cnt (tkA s o) (min m 1048576)).n, 0⟩)
     else ⟨⟨#[]⟩, o, (cnt (tkA s o) (min m 1048576)).er⟩)
  else ⟨⟨#[]⟩, o, er⟩
def byteAt (s : ByteArray) (o : Nat) : Nat := (s.data.toList.getD o 0).toNat
def boolA (s : ByteArray) (o : Nat) (er : Int) : Ans Bool :=
  if er = 0 then (if o < s.size then (if 1 < byteAt s o then ⟨false, o, 6⟩ else ⟨(byteAt s o : Int) == 1, o + 1, 0⟩) else ⟨false, o, 4⟩) else ⟨false, o, er⟩
end Go.Proofs.YtfemippjaokcmaaGreatDoor.V
namespace Go.Proofs.YtfemippjaokcmaaGreatDoor.V
open Go.RowKit
end Go.Proofs.YtfemippjaokcmaaGreatDoor.V
namespace Go.Proofs.YtfemippjaokcmaaGreatDoor.V
open Go.RowKit
end Go.Proofs.YtfemippjaokcmaaGreatDoor.V
namespace Go.Proofs.YtfemippjaokcmaaGreatDoor.V
open Go.RowKit
end Go.Proofs.YtfemippjaokcmaaGreatDoor.V
namespace Go.Proofs.YtfemippjaokcmaaGreatDoor.V
open Go.RowKit
set_option maxRecDepth 100000 in
theorem put_size (n : Nat) : (⟨(put n).toArray⟩ : ByteArray).size = (put n).length := by show (put n).toArray.size = _; simp
end Go.Proofs.YtfemippjaokcmaaGreatDoor.V
