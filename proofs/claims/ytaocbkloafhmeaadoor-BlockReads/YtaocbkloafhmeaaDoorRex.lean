/- A revision as plain data, its memory, and its meta's bytes; the box that a call puts it into. Lists of revisions that lie somewhere; a block as plain data. -/
import Derived.Test.YtaocbkloafhmeaaDoorAny
import Derived.Test.YtaocbkloafhmeaaDoorEnx
import Derived.Test.YtaocbkloafhmeaaDoorLeaves
namespace Go.Proofs.YtaocbkloafhmeaaDoor
open Go.RowKit
structure Rv where
  op : Int
  t : ByteArray
  f : ByteArray
  d : Nat
  v : Nat
  h : ByteArray
  b : ByteArray
  g : Bool
def Rv.cs (r : Rv) : Array Value := #[.int .i64 r.op, .string r.t, .string r.f, .int .u64 (r.d : Int), .int .u64 (r.v : Int), .string r.h, .string r.b, .bool r.g]
def Rv.val (r : Rv) : Value := .agg r.cs
/- What numbers and texts of a revision may be: those of the types, and texts that a machine has. -/
structure Rv.fit (r : Rv) : Prop where
  op0 : -9223372036854775808 ≤ r.op
  op1 : r.op < 9223372036854775808
  d : r.d < 18446744073709551616
  v : r.v < 18446744073709551616
  t : r.t.size ≤ 1125899906842624
  f : r.f.size ≤ 1125899906842624
  h : r.h.size ≤ 1125899906842624
  b : r.b.size ≤ 1125899906842624
def opB (n : Int) : UInt8 := UInt8.ofNat (n % 256).toNat
theorem opB_val (n : Int) : IntKind.u8.wrap n = ((opB n).toNat : Int) := by
  unfold opB
  rw [IntKind.wrap_u8', UInt8.toNat_ofNat']
  omega
def putS (n : Nat) : ByteArray := ⟨(put n).toArray⟩
theorem putS_size {n : Nat} (h : n < 18446744073709551616) : (putS n).size ≤ 10 := by
  unfold putS
  rw [put_size]
  exact put_len10 h
theorem textB_size {t : ByteArray} (h : t.size ≤ 1125899906842624) : (textB t).size ≤ t.size + 10 := by
  unfold textB
  rw [ByteArray.size_append, put_size]
  have := put_len10 (n := t.size) (by omega)
  omega
def metaT (r : Rv) : ByteArray := ((((⟨#[opB r.op]⟩ ++ textB r.t) ++ textB r.f) ++ putS r.d) ++ putS r.v) ++ textB r.h
theorem metaT_size {r : Rv} (h : r.fit) : (metaT r).size ≤ r.t.size + r.f.size + r.h.size + 51 := by
  unfold metaT
  simp only [ByteArray.size_append]
  have h1 := textB_size h.t
  have h2 := textB_size h.f
  have h3 := textB_size h.h
  have h4 := putS_size h.d
  have h5 := putS_size h.v
  have h6 := size_one (opB r.op)
  omega
end Go.Proofs.YtaocbkloafhmeaaDoor
namespace Go.Proofs.YtaocbkloafhmeaaDoor
open Go.RowKit
structure At8 (w : World) (b o : Nat) (r : Rv) : Prop where
  c0 : w.cell? ⟨b, o, none⟩ = some (.int .i64 r.op)
  c1 : w.cell? ⟨b, o + 1, none⟩ = some (.string r.t)
  c2 : w.cell? ⟨b, o + 2, none⟩ = some (.string r.f)
  c3 : w.cell? ⟨b, o + 3, none⟩ = some (.int .u64 (r.d : Int))
  c4 : w.cell? ⟨b, o + 4, none⟩ = some (.int .u64 (r.v : Int))
  c5 : w.cell? ⟨b, o + 5, none⟩ = some (.string r.h)
  c6 : w.cell? ⟨b, o + 6, none⟩ = some (.string r.b)
  c7 : w.cell? ⟨b, o + 7, none⟩ = some (.bool r.g)
theorem cell_kept {w w' : World} {a : Addr} {v : Value} (h : w.cell? a = some v) (hb : w'.heap[a.block]? = w.heap[a.block]?) : w'.cell? a = some v := by
  rw [← h]
  exact World.cell?_of_block hb
theorem At8.kept {w w' : World} {b o : Nat} {r : Rv} (h : At8 w b o r) (hb : w'.heap[b]? = w.heap[b]?) : At8 w' b o r :=
  ⟨cell_kept h.c0 hb, cell_kept h.c1 hb, cell_kept h.c2 hb, cell_kept h.c3 hb, cell_kept h.c4 hb, cell_kept h.c5 hb, cell_kept h.c6 hb, cell_kept h.c7 hb⟩
theorem At8.of_row {w : World} {b t : Nat} {r : Rv} {fr : Nat × Nat} (h : w.heap[b]? = some (.cells r.cs t fr)) : At8 w b 0 r :=
  ⟨cell_of_row w b 0 _ _ _ h, cell_of_row w b 1 _ _ _ h, cell_of_row w b 2 _ _ _ h, cell_of_row w b 3 _ _ _ h, cell_of_row w b 4 _ _ _ h, cell_of_row w b 5 _ _ _ h, cell_of_row w b 6 _ _ _ h, cell_of_row w b 7 _ _ _ h⟩
structure Revs (w : World) (p : Option Addr) (n c : Nat) (R : Nat → Rv) : Prop where
  cap : n ≤ c ∧ c ≤ maxLen
  fit : ∀ i, i < n → (R i).fit
  at' : 0 < n → ∃ b o, p = some ⟨b, o, none⟩ ∧ b < w.heap.size ∧ ∀ i, i < n → At8 w b (o + i * 8) (R i)
theorem Revs.kept {w w' : World} {p : Option Addr} {n c : Nat} {R : Nat → Rv} (h : Revs w p n c R) (hs : w.heap.size ≤ w'.heap.size) (hk : ∀ b, p.map (·.block) = some b → w'.heap[b]? = w.heap[b]?) : Revs w' p n c R := by
  refine ⟨h.cap, h.fit, fun hn => ?_⟩
  obtain ⟨b, o, h1, h2, h3⟩ := h.at' hn
  exact ⟨b, o, h1, Nat.lt_of_lt_of_le h2 hs, fun i hi => (h3 i hi).kept (hk b (by rw [h1]; rfl))⟩
theorem Revs.later {w w' : World} {p : Option Addr} {n c : Nat} {R : Nat → Rv} (h : Revs w p n c R) (hb : Below w.heap.size w w') : Revs w' p n c R := by
  refine ⟨h.cap, h.fit, fun hn => ?_⟩
  obtain ⟨b, o, h1, h2, h3⟩ := h.at' hn
  exact ⟨b, o, h1, Nat.lt_of_lt_of_le h2 hb.size, fun i hi => (h3 i hi).kept (hb.block b h2)⟩
theorem Revs.less {w : World} {p : Option Addr} {n c : Nat} {R : Nat → Rv} (h : Revs w p n c R) (m : Nat) (hm : m ≤ n) : Revs w p m c R := by
  refine ⟨⟨Nat.le_trans hm h.cap.1, h.cap.2⟩, fun i hi => h.fit i (by omega), fun hn => ?_⟩
  obtain ⟨b, o, h1, h2, h3⟩ := h.at' (by omega)
  exact ⟨b, o, h1, h2, fun i hi => h3 i (by omega)⟩
theorem Revs.congr {w : World} {p : Option Addr} {n c : Nat} {R R' : Nat → Rv} (h : Revs w p n c R) (hg : ∀ i, i < n → R' i = R i) : Revs w p n c R' := by
  refine ⟨h.cap, fun i hi => by rw [hg i hi]; exact h.fit i hi, fun hn => ?_⟩
  obtain ⟨b, o, h1, h2, h3⟩ := h.at' hn
  exact ⟨b, o, h1, h2, fun i hi => by rw [hg i hi]; exact h3 i hi⟩
/- A block: its numbers, the digest ahead, and its revisions. -/
structure Bk where
  seq : Nat
  prev : ByteArray
  tx : Nat
  n : Nat
  R : Nat → Rv
structure Bk.fit (x : Bk) : Prop where
  seq : x.seq < 18446744073709551616
  tx : x.tx < 18446744073709551616
  prev : x.prev.size ≤ 1125899906842624
def Bk.cs (x : Bk) (p : Option Addr) (c : Nat) : Array Value := #[.int .u64 (x.seq : Int), .string x.prev, .int .u64 (x.tx : Int), .slice p x.n c]
def Bk.val (x : Bk) (p : Option Addr) (c : Nat) : Value := .agg (x.cs p c)
def headT (x : Bk) : ByteArray := ((putS x.seq ++ textB x.prev) ++ putS x.tx) ++ putS x.n
theorem headT_size {x : Bk} (h : x.fit) (hn : x.n ≤ 1000) : (headT x).size ≤ x.prev.size + 40 := by
  unfold headT
  simp only [ByteArray.size_append]
  have h1 := putS_size h.seq
  have h2 := textB_size h.prev
  have h3 := putS_size h.tx
  have h4 := putS_size (n := x.n) (by omega)
  omega
end Go.Proofs.YtaocbkloafhmeaaDoor
