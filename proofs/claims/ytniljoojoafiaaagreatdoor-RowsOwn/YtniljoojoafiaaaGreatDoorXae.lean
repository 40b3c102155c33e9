/- A value as a tree (Tr), what its memory holds (Lies), and that it stays where only new memory is made. A list of values that a call makes itself, one behind the other (Mine): how it grows, and what lies there at the end. -/
import Derived.Test.YtniljoojoafiaaaGreatDoorXad
import Derived.WalkKit
import Derived.WalkSpells
import Derived.WalkLawsBesides
import Derived.Deep.QuietTactic
import Derived.BigQuiet
import Derived.Lib.Strings
import Derived.Deep.AppendLies
import Derived.OwnWalk
namespace Go.Proofs.YtniljoojoafiaaaGreatDoor.V
open Go.RowKit
inductive Tr where
  | no : Tr
  | mk (k : Int) (b : Bool) (n : Int) (s : ByteArray) (m : Nat) (f : Nat → Tr) (q : Nat) (g : Nat → ByteArray) : Tr
def Tr.k : Tr → Int | .no => 0 | .mk k _ _ _ _ _ _ _ => k
def Tr.b : Tr → Bool | .no => false | .mk _ b _ _ _ _ _ _ => b
def Tr.n : Tr → Int | .no => 0 | .mk _ _ n _ _ _ _ _ => n
def Tr.s : Tr → ByteArray | .no => ⟨#[]⟩ | .mk _ _ _ s _ _ _ _ => s
def Tr.m : Tr → Nat | .no => 0 | .mk _ _ _ _ m _ _ _ => m
def Tr.f : Tr → Nat → Tr | .no => fun _ => .no | .mk _ _ _ _ _ f _ _ => f
def Tr.q : Tr → Nat | .no => 0 | .mk _ _ _ _ _ _ q _ => q
def Tr.g : Tr → Nat → ByteArray | .no => fun _ => ⟨#[]⟩ | .mk _ _ _ _ _ _ _ g => g
structure Ad where
  pa : Option Addr
  pc : Nat
  na : Option Addr
  nc : Nat
def Tr.cs (t : Tr) (x : Ad) : List Value := [.int .i64 t.k, .bool t.b, .int .i64 t.n, .string t.s, .slice x.pa t.m x.pc, .slice x.na t.q x.nc]
def Tr.val (t : Tr) (x : Ad) : Value := .agg #[.int .i64 t.k, .bool t.b, .int .i64 t.n, .string t.s, .slice x.pa t.m x.pc, .slice x.na t.q x.nc]
structure At6 (w : World) (b o : Nat) (t : Tr) (x : Ad) : Prop where
  c0 : w.cell? ⟨b, o, none⟩ = some (.int .i64 t.k)
  c1 : w.cell? ⟨b, o + 1, none⟩ = some (.bool t.b)
  c2 : w.cell? ⟨b, o + 2, none⟩ = some (.int .i64 t.n)
  c3 : w.cell? ⟨b, o + 3, none⟩ = some (.string t.s)
  c4 : w.cell? ⟨b, o + 4, none⟩ = some (.slice x.pa t.m x.pc)
  c5 : w.cell? ⟨b, o + 5, none⟩ = some (.slice x.na t.q x.nc)
def NamesS (S : Nat → Prop) (w : World) (q : Nat) (g : Nat → ByteArray) (na : Option Addr) (nc : Nat) : Prop :=
  q ≤ nc ∧ nc ≤ maxLen ∧ (∀ i, i < q → (g i).size ≤ maxLen) ∧ (0 < q → ∃ b o, na = some ⟨b, o, none⟩ ∧ S b ∧ ∀ i, i < q → w.cell? ⟨b, o + i, none⟩ = some (.string (g i)))
def Names (B : Nat) : World → Nat → (Nat → ByteArray) → Option Addr → Nat → Prop := NamesS (fun k => k < B)
inductive LiesS (S : Nat → Prop) (w : World) : Tr → Ad → Prop where
  | mk {k : Int} {b : Bool} {n : Int} {s : ByteArray} {m : Nat} {f : Nat → Tr} {q : Nat} {g : Nat → ByteArray} {x : Ad}
      (A : Nat → Ad)
      (hk : -9223372036854775808 ≤ k ∧ k < 9223372036854775808) (hn : -9223372036854775808 ≤ n ∧ n < 9223372036854775808) (hs : s.size ≤ maxLen)
      (hm : m ≤ x.pc ∧ x.pc ≤ maxLen)
      (hp : 0 < m → ∃ b o, x.pa = some ⟨b, o, none⟩ ∧ S b ∧ ∀ i, i < m → At6 w b (o + i * 6) (f i) (A i))
      (hr : ∀ i, i < m → LiesS S w (f i) (A i))
      (hq : NamesS S w q g x.na x.nc) : LiesS S w (.mk k b n s m f q g) x
def Lies (B : Nat) : World → Tr → Ad → Prop := LiesS (fun k => k < B)
set_option maxRecDepth 100000 in
theorem block_lt {W : World} {x : Addr} {v : Value} (h : W.cell? x = some v) : x.block < W.heap.size := by
  rcases Nat.lt_or_ge x.block W.heap.size with k | k
  · exact k
  · unfold World.cell? at h
    rw [Array.getElem?_eq_none k] at h
    cases h
set_option maxRecDepth 100000 in
theorem cell_kept {w w' : World} {a : Addr} {v : Value} (h : w.cell? a = some v) (hb : w'.heap[a.block]? = w.heap[a.block]?) : w'.cell? a = some v := by
  rw [← h]
  exact World.cell?_of_block hb
set_option maxRecDepth 100000 in
theorem cell_later {w w' : World} {a : Addr} {v : Value} {B : Nat} (h : w.cell? a = some v) (ha : a.block < B) (hb : Below B w w') : w'.cell? a = some v := cell_kept h (hb.block _ ha)
set_option maxRecDepth 100000 in
theorem At6.kept {w w' : World} {b o : Nat} {t : Tr} {x : Ad} (h : At6 w b o t x) (hb : w'.heap[b]? = w.heap[b]?) : At6 w' b o t x :=
  ⟨cell_kept h.c0 hb, cell_kept h.c1 hb, cell_kept h.c2 hb, cell_kept h.c3 hb, cell_kept h.c4 hb, cell_kept h.c5 hb⟩
set_option maxRecDepth 100000 in
theorem At6.later {B : Nat} {w w' : World} {b o : Nat} {t : Tr} {x : Ad} (h : At6 w b o t x) (hB : b < B) (hb : Below B w w') : At6 w' b o t x := h.kept (hb.block b hB)
set_option maxRecDepth 100000 in
theorem NamesS.kept {S : Nat → Prop} {w w' : World} {q : Nat} {g : Nat → ByteArray} {na : Option Addr} {nc : Nat} (hk : ∀ k, S k → w'.heap[k]? = w.heap[k]?) (h : NamesS S w q g na nc) : NamesS S w' q g na nc := by
  obtain ⟨h1, h2, h3, h4⟩ := h
  refine ⟨h1, h2, h3, fun h0 => ?_⟩
  obtain ⟨b, o, h5, h7, h6⟩ := h4 h0
  exact ⟨b, o, h5, h7, fun i hi => cell_kept (h6 i hi) (hk b h7)⟩
set_option maxRecDepth 100000 in
theorem LiesS.kept {S : Nat → Prop} {w w' : World} (hk : ∀ k, S k → w'.heap[k]? = w.heap[k]?) {t : Tr} {x : Ad} (h : LiesS S w t x) : LiesS S w' t x := by
  induction h with
  | mk A h1 hn hs hm hp _ hq ih =>
    refine .mk A h1 hn hs hm (fun h0 => ?_) ih (hq.kept hk)
    obtain ⟨b, o, h1, h3, h2⟩ := hp h0
    exact ⟨b, o, h1, h3, fun i hi => (h2 i hi).kept (hk b h3)⟩
set_option maxRecDepth 100000 in
theorem NamesS.up {S T : Nat → Prop} (hST : ∀ k, S k → T k) {w : World} {q : Nat} {g : Nat → ByteArray} {na : Option Addr} {nc : Nat} (h : NamesS S w q g na nc) : NamesS T w q g na nc := by
  obtain ⟨h1, h2, h3, h4⟩ := h
  refine ⟨h1, h2, h3, fun h0 => ?_⟩
  obtain ⟨b, o, h5, h7, h6⟩ := h4 h0
  exact ⟨b, o, h5, hST b h7, h6⟩
set_option maxRecDepth 100000 in
theorem LiesS.up {S T : Nat → Prop} (hST : ∀ k, S k → T k) {w : World} {t : Tr} {x : Ad} (h : LiesS S w t x) : LiesS T w t x := by
  induction h with
  | mk A hk hn hs hm hp _ hq ih =>
    refine .mk A hk hn hs hm (fun h0 => ?_) ih (hq.up hST)
    obtain ⟨b, o, h1, h3, h2⟩ := hp h0
    exact ⟨b, o, h1, hST b h3, h2⟩
set_option maxRecDepth 100000 in
theorem Names.later {B : Nat} {w w' : World} {q : Nat} {g : Nat → ByteArray} {na : Option Addr} {nc : Nat} (h : Names B w q g na nc) (hb : Below B w w') : Names B w' q g na nc := NamesS.kept (fun k hk => hb.block k hk) h
set_option maxRecDepth 100000 in
theorem Lies.later {B : Nat} {w w' : World} (hb : Below B w w') {t : Tr} {x : Ad} (h : Lies B w t x) : Lies B w' t x := LiesS.kept (fun k hk => hb.block k hk) h
set_option maxRecDepth 100000 in
theorem Lies.up {B C : Nat} (hBC : B ≤ C) {w : World} {t : Tr} {x : Ad} (h : Lies B w t x) : Lies C w t x := LiesS.up (fun _ hk => Nat.lt_of_lt_of_le hk hBC) h
set_option maxRecDepth 100000 in
theorem LiesS.part {S : Nat → Prop} {w : World} {k : Int} {b : Bool} {n : Int} {s : ByteArray} {m : Nat} {f : Nat → Tr} {q : Nat} {g : Nat → ByteArray} {x : Ad} (h : LiesS S w (.mk k b n s m f q g) x) :
    ∃ A : Nat → Ad, (0 < m → ∃ b o, x.pa = some ⟨b, o, none⟩ ∧ S b ∧ ∀ i, i < m → At6 w b (o + i * 6) (f i) (A i)) ∧ ∀ i, i < m → LiesS S w (f i) (A i) := by
  cases h with
  | mk A _ _ _ _ hp hr _ => exact ⟨A, hp, hr⟩
set_option maxRecDepth 100000 in
theorem Lies.part {B : Nat} {w : World} {k : Int} {b : Bool} {n : Int} {s : ByteArray} {m : Nat} {f : Nat → Tr} {q : Nat} {g : Nat → ByteArray} {x : Ad} (h : Lies B w (.mk k b n s m f q g) x) :
    ∃ A : Nat → Ad, (0 < m → ∃ b o, x.pa = some ⟨b, o, none⟩ ∧ b < B ∧ ∀ i, i < m → At6 w b (o + i * 6) (f i) (A i)) ∧ ∀ i, i < m → Lies B w (f i) (A i) := LiesS.part h
set_option maxRecDepth 100000 in
theorem LiesS.lims {S : Nat → Prop} {w : World} {t : Tr} {x : Ad} (h : LiesS S w t x) :
    (-9223372036854775808 ≤ t.k ∧ t.k < 9223372036854775808) ∧ (-9223372036854775808 ≤ t.n ∧ t.n < 9223372036854775808) ∧ t.s.size ≤ maxLen ∧ (t.m ≤ x.pc ∧ x.pc ≤ maxLen) ∧ NamesS S w t.q t.g x.na x.nc := by
  cases h with
  | mk A hk hn hs hm hp hr hq => exact ⟨hk, hn, hs, hm, hq⟩
set_option maxRecDepth 100000 in
theorem Lies.lims {B : Nat} {w : World} {t : Tr} {x : Ad} (h : Lies B w t x) :
    (-9223372036854775808 ≤ t.k ∧ t.k < 9223372036854775808) ∧ (-9223372036854775808 ≤ t.n ∧ t.n < 9223372036854775808) ∧ t.s.size ≤ maxLen ∧ (t.m ≤ x.pc ∧ x.pc ≤ maxLen) ∧ Names B w t.q t.g x.na x.nc := LiesS.lims h
set_option maxRecDepth 100000 in
theorem LiesS.no {S : Nat → Prop} {w : World} {x : Ad} (h : LiesS S w .no x) : False := by cases h
set_option maxRecDepth 100000 in
theorem Lies.no {B : Nat} {w : World} {x : Ad} (h : Lies B w .no x) : False := LiesS.no h
end Go.Proofs.YtniljoojoafiaaaGreatDoor.V
namespace Go.Proofs.YtniljoojoafiaaaGreatDoor.V
open Go.RowKit
def flat : Nat → (Nat → List Value) → List Value
  | 0, _ => []
  | n + 1, F => flat n F ++ F n
set_option maxRecDepth 100000 in
theorem flat_congr {F G : Nat → List Value} : ∀ {n : Nat}, (∀ j, j < n → F j = G j) → flat n F = flat n G
  | 0, _ => rfl
  | n + 1, h => by
    show flat n F ++ F n = flat n G ++ G n
    rw [flat_congr (fun j hj => h j (by omega)), h n (by omega)]
set_option maxRecDepth 100000 in
theorem flat_len {F : Nat → List Value} (h : ∀ j, (F j).length = 6) : ∀ n, (flat n F).length = n * 6
  | 0 => rfl
  | n + 1 => by
    show (flat n F ++ F n).length = _
    rw [List.length_append, flat_len h n, h n]; omega
set_option maxRecDepth 100000 in
theorem flat_get {F : Nat → List Value} (h : ∀ j, (F j).length = 6) : ∀ n i c, i < n → c < 6 → (flat n F)[i * 6 + c]? = (F i)[c]?
  | 0, i, c, hi, _ => by omega
  | n + 1, i, c, hi, hc => by
    show (flat n F ++ F n)[i * 6 + c]? = _
    rcases Nat.lt_or_ge i n with k | k
    · rw [List.getElem?_append_left (by rw [flat_len h n]; omega)]
      exact flat_get h n i c k hc
    · obtain rfl : i = n := by omega
      rw [List.getElem?_append_right (by rw [flat_len h]; omega), flat_len h]
      congr 1
      omega
structure Mine (e : TypeId) (S : Nat → Prop) (base : Nat) (wr : World) (v : Value) (i : Nat) (T : Nat → Tr) (A : Nat → Ad) : Prop where
  own : wr.ownsRow base e 6 v i (flat i (fun j => (T j).cs (A j)))
  lies : ∀ j, j < i → LiesS (fun k => S k ∨ (base ≤ k ∧ k < wr.heap.size ∧ some k ≠ v.ownBlock)) wr (T j) (A j)
set_option maxRecDepth 100000 in
theorem cs_len (t : Tr) (x : Ad) : (t.cs x).length = 6 := rfl
set_option maxRecDepth 100000 in
theorem Mine.start (e : TypeId) (S : Nat → Prop) (base : Nat) (wr : World) (T : Nat → Tr) (A : Nat → Ad) : Mine e S base wr (.slice none 0 0) 0 T A :=
  ⟨⟨rfl, Or.inl ⟨rfl, rfl⟩⟩, fun j hj => by omega⟩
set_option maxRecDepth 100000 in
theorem Mine.kept {e : TypeId} {S : Nat → Prop} {base : Nat} {w w' : World} {v : Value} {i : Nat} {T : Nat → Tr} {A : Nat → Ad} (h : Mine e S base w v i T A) (hsz : w.heap.size ≤ w'.heap.size)
    (hS : ∀ k, S k → w'.heap[k]? = w.heap[k]?) (hk : ∀ k, base ≤ k → k < w.heap.size → w'.heap[k]? = w.heap[k]?) : Mine e S base w' v i T A := by
  refine ⟨⟨h.own.1, ?_⟩, fun j hj => ?_⟩
  · rcases h.own.2 with h1 | ⟨g, cap, cur, h1, h2, h3, h4⟩
    · exact Or.inl h1
    · exact Or.inr ⟨g, cap, cur, h1, h2, (hk g h2 (lt_of_row h3)).trans h3, h4⟩
  · refine (LiesS.kept (w' := w') (fun k hh => ?_) (h.lies j hj)).up (fun k hh => ?_)
    · rcases hh with hh | ⟨h1, h2, _⟩
      · exact hS k hh
      · exact hk k h1 h2
    · rcases hh with hh | ⟨h1, h2, h3⟩
      · exact Or.inl hh
      · exact Or.inr ⟨h1, by omega, h3⟩
set_option maxRecDepth 100000 in
theorem Mine.step {e : TypeId} {S : Nat → Prop} {base : Nat} {wr w2 w3 : World} {v : Value} {i : Nat} {T : Nat → Tr} {A : Nat → Ad} {a : Ad} {g cap H : Nat} (h : Mine e S base w2 v i T A)
    (hwr : wr.heap.size ≤ w2.heap.size) (hbase : base ≤ wr.heap.size) (hvw : ∀ k, v.ownBlock = some k → k < wr.heap.size) (hSw : ∀ k, S k → k < base)
    (hT : LiesS (fun k => S k ∨ (wr.heap.size ≤ k ∧ k < w2.heap.size)) w2 (T i) a)
    (hown : w3.ownsRow base e 6 (.slice (some ⟨g, 0, none⟩) (i + 1) cap) (i + 1) (flat i (fun j => (T j).cs (A j)) ++ (T i).cs a)) (hgr : w2.grownBy w3 v.ownBlock) (hat : v.ownBlock = some g ∨ g = H) (hH : w2.heap.size = H) :
    Mine e S base w3 (.slice (some ⟨g, 0, none⟩) (i + 1) cap) (i + 1) T (fun j => if j = i then a else A j) := by
  subst hH
  have hob : ∀ k, v.ownBlock = some k → base ≤ k := fun k hk => by
    rcases h.own.2 with ⟨rfl, _⟩ | ⟨g', cap', cur, rfl, h2, _⟩
    · cases hk
    · injection hk with hk
      have hk' : g' = k := hk
      omega
  refine ⟨?_, fun j hj => ?_⟩
  · have e1 : flat (i + 1) (fun j => (T j).cs (if j = i then a else A j)) = flat i (fun j => (T j).cs (A j)) ++ (T i).cs a := by
      show flat i (fun j => (T j).cs (if j = i then a else A j)) ++ (T i).cs (if i = i then a else A i) = _
      rw [if_pos rfl, flat_congr (fun j hj => by rw [if_neg (by omega)])]
    rw [e1]
    exact hown
  · have hgo : ∀ k, k < w2.heap.size → some k ≠ v.ownBlock → some k ≠ (Value.slice (some ⟨g, 0, none⟩) (i + 1) cap).ownBlock := fun k hk hne he => by
      injection he with he
      have he' : k = g := he
      rcases hat with h1 | h1
      · rw [h1, he'] at hne; exact hne rfl
      · omega
    have hfix : ∀ k, S k ∨ (base ≤ k ∧ k < w2.heap.size ∧ some k ≠ v.ownBlock) → S k ∨ (base ≤ k ∧ k < w3.heap.size ∧ some k ≠ (Value.slice (some ⟨g, 0, none⟩) (i + 1) cap).ownBlock) := fun k hh => by
      rcases hh with hh | ⟨h1, h2, h3⟩
      · exact Or.inl hh
      · exact Or.inr ⟨h1, Nat.lt_of_lt_of_le h2 hgr.size, hgo k h2 h3⟩
    have hsame : ∀ k, S k ∨ (base ≤ k ∧ k < w2.heap.size ∧ some k ≠ v.ownBlock) → w3.heap[k]? = w2.heap[k]? := fun k hh => by
      rcases hh with hh | ⟨h1, h2, h3⟩
      · have := hSw k hh
        exact hgr.block k (by omega) (fun he => by have := hob k he.symm; omega)
      · exact hgr.block k h2 h3
    by_cases hji : j = i
    · subst hji
      show LiesS _ w3 (T j) (if j = j then a else A j)
      rw [if_pos rfl]
      refine ((hT.up (fun k hh => ?_)).kept hsame).up hfix
      rcases hh with hh | ⟨h1, h2⟩
      · exact Or.inl hh
      · exact Or.inr ⟨by omega, h2, fun he => by have := hvw k he.symm; omega⟩
    · show LiesS _ w3 (T j) (if j = i then a else A j)
      rw [if_neg hji]
      exact ((h.lies j (by omega)).kept hsame).up hfix
set_option maxRecDepth 100000 in
theorem at6_of_flat {w : World} {g : Nat} {cur : Array Value} {e : TypeId} {n : Nat} {T : Nat → Tr} {A : Nat → Ad} {i : Nat} (hg : w.heap[g]? = some (.cells cur e (0, 0))) (hc : cur.toList.take (n * 6) = flat n (fun j => (T j).cs (A j))) (hi : i < n) :
    At6 w g (0 + i * 6) (T i) (A i) := by
  have key : ∀ c, c < 6 → w.cell? ⟨g, i * 6 + c, none⟩ = ((T i).cs (A i))[c]? := fun c hc6 => by
    rw [cell_of_row w g _ cur e _ hg, ← flat_get (F := fun j => (T j).cs (A j)) (fun j => cs_len _ _) n i c hi hc6, ← hc, List.getElem?_take_of_lt (by omega)]
    simp
  rw [Nat.zero_add]
  exact ⟨key 0 (by omega), key 1 (by omega), key 2 (by omega), key 3 (by omega), key 4 (by omega), key 5 (by omega)⟩
set_option maxRecDepth 100000 in
theorem Mine.done {e : TypeId} {S S' : Nat → Prop} {base : Nat} {wr : World} {v : Value} {m : Nat} {T : Nat → Tr} {A : Nat → Ad} (h : Mine e S base wr v m T A) (hS : ∀ k, S k → S' k) (hb : ∀ k, base ≤ k → k < wr.heap.size → S' k) :
    ∃ pa pc, v = .slice pa m pc ∧ (m ≤ pc ∧ pc ≤ maxLen) ∧ (0 < m → ∃ b o, pa = some ⟨b, o, none⟩ ∧ S' b ∧ ∀ i, i < m → At6 wr b (o + i * 6) (T i) (A i)) ∧ ∀ i, i < m → LiesS S' wr (T i) (A i) := by
  have hl : ∀ i, i < m → LiesS S' wr (T i) (A i) := fun i hi => (h.lies i hi).up (fun k hh => by
    rcases hh with hh | ⟨h1, h2, _⟩
    · exact hS k hh
    · exact hb k h1 h2)
  rcases h.own.2 with ⟨rfl, h0⟩ | ⟨g, cap, cur, rfl, h1, h2, h3, h4, _, h6⟩
  · exact ⟨none, 0, by rw [h0], ⟨by omega, by unfold maxLen; omega⟩, fun hm => by omega, hl⟩
  · exact ⟨_, _, rfl, ⟨h3, h4⟩, fun _ => ⟨g, 0, rfl, hb g h1 (lt_of_row h2), fun i hi => at6_of_flat h2 h6 hi⟩, hl⟩
set_option maxRecDepth 100000 in
theorem Mine.block_lt {e : TypeId} {S : Nat → Prop} {base : Nat} {wr : World} {v : Value} {m : Nat} {T : Nat → Tr} {A : Nat → Ad} (h : Mine e S base wr v m T A) : ∀ k, v.ownBlock = some k → k < wr.heap.size := fun k hk => by
  rcases h.own.2 with ⟨rfl, _⟩ | ⟨g, cap, cur, rfl, _, h2, _⟩
  · cases hk
  · injection hk with hk
    have hk' : g = k := hk
    rw [← hk']
    exact lt_of_row h2
set_option maxRecDepth 100000 in
theorem Mine.block_ge {e : TypeId} {S : Nat → Prop} {base : Nat} {wr : World} {v : Value} {m : Nat} {T : Nat → Tr} {A : Nat → Ad} (h : Mine e S base wr v m T A) : ∀ k, v.ownBlock = some k → base ≤ k := fun k hk => by
  rcases h.own.2 with ⟨rfl, _⟩ | ⟨g, cap, cur, rfl, h2, _⟩
  · cases hk
  · injection hk with hk
    have hk' : g = k := hk
    omega
set_option maxRecDepth 100000 in
theorem info25 : (Tryz.prog.info? 34).map (fun i => (i.zero, i.size, i.bytes)) = some (some (.agg #[.int .i64 0, .bool false, .int .i64 0, .string ⟨#[]⟩, .slice none 0 0, .slice none 0 0]), 6, 88) := by kernel_rfl
set_option maxRecDepth 100000 in
theorem info33 : (Tryz.prog.info? 52).map (fun i => (i.zero, i.size, i.bytes)) = some (some (.agg #[.int .i64 0, .bool false, .int .i64 0, .string ⟨#[]⟩, .slice none 0 0, .slice none 0 0]), 6, 88) := by kernel_rfl
def set6 (w : World) (z : Nat) (c0 c1 c2 c3 c4 c5 : Value) : World :=
  (((((w.setCell ⟨z, 0, none⟩ c0).setCell ⟨z, 1, none⟩ c1).setCell ⟨z, 2, none⟩ c2).setCell ⟨z, 3, none⟩ c3).setCell ⟨z, 4, none⟩ c4).setCell ⟨z, 5, none⟩ c5
set_option maxRecDepth 100000 in
theorem set6_block (w : World) (z : Nat) (c0 c1 c2 c3 c4 c5 : Value) (k : Nat) (h : k ≠ z) : (set6 w z c0 c1 c2 c3 c4 c5).heap[k]? = w.heap[k]? := by
  unfold set6
  rw [Below.heap_setCell _ _ _ k h, Below.heap_setCell _ _ _ k h, Below.heap_setCell _ _ _ k h, Below.heap_setCell _ _ _ k h, Below.heap_setCell _ _ _ k h, Below.heap_setCell _ _ _ k h]
set_option maxRecDepth 100000 in
theorem set6_size (w : World) (z : Nat) (c0 c1 c2 c3 c4 c5 : Value) : (set6 w z c0 c1 c2 c3 c4 c5).heap.size = w.heap.size := by unfold set6; simp
set_option maxRecDepth 100000 in
theorem set6_below {B : Nat} {a w : World} (hb : Below B a w) (z : Nat) (hz : B ≤ z) (c0 c1 c2 c3 c4 c5 : Value) : Below B a (set6 w z c0 c1 c2 c3 c4 c5) :=
  (((((hb.setCell (p := ⟨z, 0, none⟩) hz c0).setCell (p := ⟨z, 1, none⟩) hz c1).setCell (p := ⟨z, 2, none⟩) hz c2).setCell (p := ⟨z, 3, none⟩) hz c3).setCell (p := ⟨z, 4, none⟩) hz c4).setCell (p := ⟨z, 5, none⟩) hz c5
set_option maxRecDepth 100000 in
theorem set6_row {w : World} {z : Nat} {t : TypeId} {fr : Nat × Nat} {a0 a1 a2 a3 a4 a5 : Value} (h : w.heap[z]? = some (.cells #[a0, a1, a2, a3, a4, a5] t fr)) (c0 c1 c2 c3 c4 c5 : Value) :
    (set6 w z c0 c1 c2 c3 c4 c5).heap[z]? = some (.cells #[c0, c1, c2, c3, c4, c5] t fr) :=
  row_setCell (k := 5) (row_setCell (k := 4) (row_setCell (k := 3) (row_setCell (k := 2) (row_setCell (k := 1) (row_setCell (k := 0) h c0) c1) c2) c3) c4) c5
end Go.Proofs.YtniljoojoafiaaaGreatDoor.V
