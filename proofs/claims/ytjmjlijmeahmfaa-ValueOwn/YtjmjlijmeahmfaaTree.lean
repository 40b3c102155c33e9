/- A value as a tree (Tr), what its memory holds (Lies), and that it stays where only new memory is made. -/
import Derived.Test.YtjmjlijmeahmfaaKit
import Derived.WalkKit
import Derived.WalkSpells
import Derived.WalkLawsBesides
import Derived.Deep.QuietTactic
import Derived.BigQuiet
import Derived.Lib.Strings
namespace Go.Proofs.Ytjmjlijmeahmfaa
open Go.RowKit
inductive Tr where
  | no : Tr
  | mk (k : Int) (b : Bool) (n : Int) (s : ByteArray) (m : Nat) (f : Nat → Tr) (q : Nat) (g : Nat → ByteArray) : Tr
def Tr.k : Tr → Int | .no => 0 | .mk k _ _ _ _ _ _ _ => k
def Tr.b : Tr → Bool | .no => false | .mk _ b _ _ _ _ _ _ => b
def Tr.n : Tr → Int | .no => 0 | .mk _ _ n _ _ _ _ _ => n
def Tr.s : Tr → ByteArray | .no => ⟨#[]⟩ | .mk _ _ _ s _ _ _ _ => s
def Tr.m : Tr → Nat | .no => 0 | .mk _ _ _ _ m _ _ _ => m
def Tr.f : Tr → Nat → Tr | .no => fun _ => .no | .mk _ _ _ _ _ f _ _ => f
def Tr.q : Tr → Nat | .no => 0 | .mk _ _ _ _ _ _ q _ => q
def Tr.g : Tr → Nat → ByteArray | .no => fun _ => ⟨#[]⟩ | .mk _ _ _ _ _ _ _ g => g
structure Ad where
  pa : Option Addr
  pc : Nat
  na : Option Addr
  nc : Nat
def Tr.cs (t : Tr) (x : Ad) : List Value := [.int .i64 t.k, .bool t.b, .int .i64 t.n, .string t.s, .slice x.pa t.m x.pc, .slice x.na t.q x.nc]
def Tr.val (t : Tr) (x : Ad) : Value := .agg #[.int .i64 t.k, .bool t.b, .int .i64 t.n, .string t.s, .slice x.pa t.m x.pc, .slice x.na t.q x.nc]
structure At6 (w : World) (b o : Nat) (t : Tr) (x : Ad) : Prop where
  c0 : w.cell? ⟨b, o, none⟩ = some (.int .i64 t.k)
  c1 : w.cell? ⟨b, o + 1, none⟩ = some (.bool t.b)
  c2 : w.cell? ⟨b, o + 2, none⟩ = some (.int .i64 t.n)
  c3 : w.cell? ⟨b, o + 3, none⟩ = some (.string t.s)
  c4 : w.cell? ⟨b, o + 4, none⟩ = some (.slice x.pa t.m x.pc)
  c5 : w.cell? ⟨b, o + 5, none⟩ = some (.slice x.na t.q x.nc)
def NamesS (S : Nat → Prop) (w : World) (q : Nat) (g : Nat → ByteArray) (na : Option Addr) (nc : Nat) : Prop :=
  q ≤ nc ∧ nc ≤ maxLen ∧ (∀ i, i < q → (g i).size ≤ maxLen) ∧ (0 < q → ∃ b o, na = some ⟨b, o, none⟩ ∧ S b ∧ ∀ i, i < q → w.cell? ⟨b, o + i, none⟩ = some (.string (g i)))
def Names (B : Nat) : World → Nat → (Nat → ByteArray) → Option Addr → Nat → Prop := NamesS (fun k => k < B)
inductive LiesS (S : Nat → Prop) (w : World) : Tr → Ad → Prop where
  | mk {k : Int} {b : Bool} {n : Int} {s : ByteArray} {m : Nat} {f : Nat → Tr} {q : Nat} {g : Nat → ByteArray} {x : Ad}
      (A : Nat → Ad)
      (hk : -9223372036854775808 ≤ k ∧ k < 9223372036854775808) (hn : -9223372036854775808 ≤ n ∧ n < 9223372036854775808) (hs : s.size ≤ maxLen)
      (hm : m ≤ x.pc ∧ x.pc ≤ maxLen)
      (hp : 0 < m → ∃ b o, x.pa = some ⟨b, o, none⟩ ∧ S b ∧ ∀ i, i < m → At6 w b (o + i * 6) (f i) (A i))
      (hr : ∀ i, i < m → LiesS S w (f i) (A i))
      (hq : NamesS S w q g x.na x.nc) : LiesS S w (.mk k b n s m f q g) x
def Lies (B : Nat) : World → Tr → Ad → Prop := LiesS (fun k => k < B)
theorem block_lt {W : World} {x : Addr} {v : Value} (h : W.cell? x = some v) : x.block < W.heap.size := by
  rcases Nat.lt_or_ge x.block W.heap.size with k | k
  · exact k
  · unfold World.cell? at h
    rw [Array.getElem?_eq_none k] at h
    cases h
theorem cell_kept {w w' : World} {a : Addr} {v : Value} (h : w.cell? a = some v) (hb : w'.heap[a.block]? = w.heap[a.block]?) : w'.cell? a = some v := by
  rw [← h]
  exact World.cell?_of_block hb
theorem cell_later {w w' : World} {a : Addr} {v : Value} {B : Nat} (h : w.cell? a = some v) (ha : a.block < B) (hb : Below B w w') : w'.cell? a = some v := cell_kept h (hb.block _ ha)
theorem At6.kept {w w' : World} {b o : Nat} {t : Tr} {x : Ad} (h : At6 w b o t x) (hb : w'.heap[b]? = w.heap[b]?) : At6 w' b o t x :=
  ⟨cell_kept h.c0 hb, cell_kept h.c1 hb, cell_kept h.c2 hb, cell_kept h.c3 hb, cell_kept h.c4 hb, cell_kept h.c5 hb⟩
theorem At6.later {B : Nat} {w w' : World} {b o : Nat} {t : Tr} {x : Ad} (h : At6 w b o t x) (hB : b < B) (hb : Below B w w') : At6 w' b o t x := h.kept (hb.block b hB)
theorem NamesS.kept {S : Nat → Prop} {w w' : World} {q : Nat} {g : Nat → ByteArray} {na : Option Addr} {nc : Nat} (hk : ∀ k, S k → w'.heap[k]? = w.heap[k]?) (h : NamesS S w q g na nc) : NamesS S w' q g na nc := by
  obtain ⟨h1, h2, h3, h4⟩ := h
  refine ⟨h1, h2, h3, fun h0 => ?_⟩
  obtain ⟨b, o, h5, h7, h6⟩ := h4 h0
  exact ⟨b, o, h5, h7, fun i hi => cell_kept (h6 i hi) (hk b h7)⟩
theorem LiesS.kept {S : Nat → Prop} {w w' : World} (hk : ∀ k, S k → w'.heap[k]? = w.heap[k]?) {t : Tr} {x : Ad} (h : LiesS S w t x) : LiesS S w' t x := by
  induction h with
  | mk A h1 hn hs hm hp _ hq ih =>
    refine .mk A h1 hn hs hm (fun h0 => ?_) ih (hq.kept hk)
    obtain ⟨b, o, h1, h3, h2⟩ := hp h0
    exact ⟨b, o, h1, h3, fun i hi => (h2 i hi).kept (hk b h3)⟩
theorem NamesS.up {S T : Nat → Prop} (hST : ∀ k, S k → T k) {w : World} {q : Nat} {g : Nat → ByteArray} {na : Option Addr} {nc : Nat} (h : NamesS S w q g na nc) : NamesS T w q g na nc := by
  obtain ⟨h1, h2, h3, h4⟩ := h
  refine ⟨h1, h2, h3, fun h0 => ?_⟩
  obtain ⟨b, o, h5, h7, h6⟩ := h4 h0
  exact ⟨b, o, h5, hST b h7, h6⟩
theorem LiesS.up {S T : Nat → Prop} (hST : ∀ k, S k → T k) {w : World} {t : Tr} {x : Ad} (h : LiesS S w t x) : LiesS T w t x := by
  induction h with
  | mk A hk hn hs hm hp _ hq ih =>
    refine .mk A hk hn hs hm (fun h0 => ?_) ih (hq.up hST)
    obtain ⟨b, o, h1, h3, h2⟩ := hp h0
    exact ⟨b, o, h1, hST b h3, h2⟩
theorem Names.later {B : Nat} {w w' : World} {q : Nat} {g : Nat → ByteArray} {na : Option Addr} {nc : Nat} (h : Names B w q g na nc) (hb : Below B w w') : Names B w' q g na nc := NamesS.kept (fun k hk => hb.block k hk) h
theorem Lies.later {B : Nat} {w w' : World} (hb : Below B w w') {t : Tr} {x : Ad} (h : Lies B w t x) : Lies B w' t x := LiesS.kept (fun k hk => hb.block k hk) h
theorem Lies.up {B C : Nat} (hBC : B ≤ C) {w : World} {t : Tr} {x : Ad} (h : Lies B w t x) : Lies C w t x := LiesS.up (fun _ hk => Nat.lt_of_lt_of_le hk hBC) h
theorem LiesS.part {S : Nat → Prop} {w : World} {k : Int} {b : Bool} {n : Int} {s : ByteArray} {m : Nat} {f : Nat → Tr} {q : Nat} {g : Nat → ByteArray} {x : Ad} (h : LiesS S w (.mk k b n s m f q g) x) :
    ∃ A : Nat → Ad, (0 < m → ∃ b o, x.pa = some ⟨b, o, none⟩ ∧ S b ∧ ∀ i, i < m → At6 w b (o + i * 6) (f i) (A i)) ∧ ∀ i, i < m → LiesS S w (f i) (A i) := by
  cases h with
  | mk A _ _ _ _ hp hr _ => exact ⟨A, hp, hr⟩
theorem Lies.part {B : Nat} {w : World} {k : Int} {b : Bool} {n : Int} {s : ByteArray} {m : Nat} {f : Nat → Tr} {q : Nat} {g : Nat → ByteArray} {x : Ad} (h : Lies B w (.mk k b n s m f q g) x) :
    ∃ A : Nat → Ad, (0 < m → ∃ b o, x.pa = some ⟨b, o, none⟩ ∧ b < B ∧ ∀ i, i < m → At6 w b (o + i * 6) (f i) (A i)) ∧ ∀ i, i < m → Lies B w (f i) (A i) := LiesS.part h
theorem LiesS.lims {S : Nat → Prop} {w : World} {t : Tr} {x : Ad} (h : LiesS S w t x) :
    (-9223372036854775808 ≤ t.k ∧ t.k < 9223372036854775808) ∧ (-9223372036854775808 ≤ t.n ∧ t.n < 9223372036854775808) ∧ t.s.size ≤ maxLen ∧ (t.m ≤ x.pc ∧ x.pc ≤ maxLen) ∧ NamesS S w t.q t.g x.na x.nc := by
  cases h with
  | mk A hk hn hs hm hp hr hq => exact ⟨hk, hn, hs, hm, hq⟩
theorem Lies.lims {B : Nat} {w : World} {t : Tr} {x : Ad} (h : Lies B w t x) :
    (-9223372036854775808 ≤ t.k ∧ t.k < 9223372036854775808) ∧ (-9223372036854775808 ≤ t.n ∧ t.n < 9223372036854775808) ∧ t.s.size ≤ maxLen ∧ (t.m ≤ x.pc ∧ x.pc ≤ maxLen) ∧ Names B w t.q t.g x.na x.nc := LiesS.lims h
theorem LiesS.no {S : Nat → Prop} {w : World} {x : Ad} (h : LiesS S w .no x) : False := by cases h
theorem Lies.no {B : Nat} {w : World} {x : Ad} (h : Lies B w .no x) : False := LiesS.no h
end Go.Proofs.Ytjmjlijmeahmfaa
