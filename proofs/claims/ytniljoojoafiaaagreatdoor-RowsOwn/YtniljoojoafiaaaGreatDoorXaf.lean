/- Two lists that a call makes itself side by side: values (Twin), and their names (Nms). The number with which bytes begin (first): of any bytes, at most 8192, the call returns what the plain facts take of them, and changes nothing. The calls of a cursor that look ahead: number, count, piece; of a nil cursor, of one that has an error, and of one that has none. The calls of a cursor that take something: Uint, Int, Count, Bytes, Text, Bool, and End; what each answers, and the cursor behind it, in plain words (the functions ..A). The calls of a cursor that take something: Uint, Int, Count, Bytes, Text, Bool; what each answers, and the cursor behind it, in plain words (the functions ..A). The calls of a cursor that take bytes: Bytes, Text, Bool; what each answers, and the cursor behind it, in plain words. The calls of a cursor that take a text, and yes or no (Text, Bool). The call of a cursor that takes yes or no (Bool). What is taken of bytes as a value (takeA): plain facts. A clone of a value without parts and names (Clone, cloneAll). -/
import Derived.Test.YtniljoojoafiaaaGreatDoorXae
import Derived.Test.YtniljoojoafiaaaGreatDoorXad
import Derived.WalkKit
import Derived.WalkSpells
import Derived.WalkLawsBesides
import Derived.Deep.QuietTactic
import Derived.BigQuiet
import Derived.Laws.BitsAllLaws
import Derived.Lib.Strings
import Derived.OwnWalk
import Derived.Laws.AppendOwnNone
namespace Go.Proofs.YtniljoojoafiaaaGreatDoor.V
open Go.RowKit
structure Twin (n : Option Nat) (base : Nat) (wr : World) (v : Value) (i : Nat) (T : Nat → Tr) (A : Nat → Ad) : Prop where
  own : wr.ownsRow base 34 6 v i (flat i (fun j => (T j).cs (A j)))
  lies : ∀ j, j < i → LiesS (fun k => base ≤ k ∧ k < wr.heap.size ∧ some k ≠ v.ownBlock ∧ some k ≠ n) wr (T j) (A j)
def strs (l : List ByteArray) : List Value := l.map Value.string
def Nms (base : Nat) (wr : World) (v : Value) (l : List ByteArray) : Prop := wr.ownsRow base 9 1 v l.length (strs l)
set_option maxRecDepth 100000 in
theorem Twin.start (n : Option Nat) (base : Nat) (wr : World) (T : Nat → Tr) (A : Nat → Ad) : Twin n base wr (.slice none 0 0) 0 T A := ⟨⟨rfl, Or.inl ⟨rfl, rfl⟩⟩, fun j hj => by omega⟩
set_option maxRecDepth 100000 in
theorem Nms.start (base : Nat) (wr : World) : Nms base wr (.slice none 0 0) [] := ⟨rfl, Or.inl ⟨rfl, rfl⟩⟩
set_option maxRecDepth 100000 in
theorem own_lt {wr : World} {base : Nat} {e : TypeId} {size : Nat} {v : Value} {n : Nat} {xs : List Value} (h : wr.ownsRow base e size v n xs) : ∀ k, v.ownBlock = some k → base ≤ k ∧ k < wr.heap.size ∧ ∃ cs, wr.heap[k]? = some (.cells cs e (0, 0)) := fun k hk => by
  rcases h.2 with ⟨rfl, _⟩ | ⟨g, cap, cur, rfl, h1, h2, _⟩
  · cases hk
  · injection hk with hk
    have hk' : g = k := hk
    subst hk'
    exact ⟨h1, lt_of_row h2, cur, h2⟩
set_option maxRecDepth 100000 in
theorem own_kept {w w' : World} {base : Nat} {e : TypeId} {size : Nat} {v : Value} {n : Nat} {xs : List Value} (h : w.ownsRow base e size v n xs) (hk : ∀ k, v.ownBlock = some k → w'.heap[k]? = w.heap[k]?) : w'.ownsRow base e size v n xs := by
  refine ⟨h.1, ?_⟩
  rcases h.2 with h1 | ⟨g, cap, cur, rfl, h2, h3, h4⟩
  · exact Or.inl h1
  · exact Or.inr ⟨g, cap, cur, rfl, h2, (hk g rfl).trans h3, h4⟩
set_option maxRecDepth 100000 in
theorem own_ne {w : World} {base : Nat} {e e' : TypeId} {size size' : Nat} {v v' : Value} {n n' : Nat} {xs xs' : List Value} (h : w.ownsRow base e size v n xs) (h' : w.ownsRow base e' size' v' n' xs') (he : e ≠ e') : ∀ k, v.ownBlock = some k → some k ≠ v'.ownBlock := fun k hk hk' => by
  obtain ⟨_, _, cs, h1⟩ := own_lt h k hk
  obtain ⟨_, _, cs', h2⟩ := own_lt h' k hk'.symm
  rw [h1] at h2
  injection h2 with h2
  injection h2 with _ h3 _
  exact he h3
set_option maxRecDepth 100000 in
theorem Twin.kept {n : Option Nat} {base : Nat} {w w' : World} {v : Value} {i : Nat} {T : Nat → Tr} {A : Nat → Ad} (h : Twin n base w v i T A) (hsz : w.heap.size ≤ w'.heap.size) (hk : ∀ k, base ≤ k → k < w.heap.size → w'.heap[k]? = w.heap[k]?) : Twin n base w' v i T A :=
  ⟨own_kept h.own (fun k hv => hk k (own_lt h.own k hv).1 (own_lt h.own k hv).2.1), fun j hj => (LiesS.kept (w' := w') (fun k hh => hk k hh.1 hh.2.1) (h.lies j hj)).up (fun k hh => ⟨hh.1, by omega, hh.2.2⟩)⟩
set_option maxRecDepth 100000 in
theorem Nms.kept {base : Nat} {w w' : World} {v : Value} {l : List ByteArray} (h : Nms base w v l) (hk : ∀ k, base ≤ k → k < w.heap.size → w'.heap[k]? = w.heap[k]?) : Nms base w' v l := own_kept h (fun k hv => hk k (own_lt h k hv).1 (own_lt h k hv).2.1)
set_option maxRecDepth 100000 in
theorem Twin.named {base : Nat} {w2 w3 : World} {v u : Value} {l : List ByteArray} {i : Nat} {T : Nat → Tr} {A : Nat → Ad} {g cap c : Nat} (h : Twin u.ownBlock base w2 v i T A) (hN : Nms base w2 u l) (hgr : w2.grownBy w3 u.ownBlock) (hat : u.ownBlock = some g ∨ g = w2.heap.size) :
    Twin (Value.slice (some ⟨g, 0, none⟩) c cap).ownBlock base w3 v i T A := by
  refine ⟨own_kept h.own (fun k hv => hgr.block k (own_lt h.own k hv).2.1 (own_ne h.own hN (by decide) k hv)), fun j hj => ?_⟩
  refine (LiesS.kept (w' := w3) (fun k hh => hgr.block k hh.2.1 hh.2.2.2) (h.lies j hj)).up (fun k hh => ⟨hh.1, Nat.lt_of_lt_of_le hh.2.1 hgr.size, hh.2.2.1, fun he => ?_⟩)
  injection he with he
  have he' : k = g := he
  rcases hat with h1 | h1
  · exact hh.2.2.2 (by rw [h1, he'])
  · omega
set_option maxRecDepth 100000 in
theorem Twin.step {n : Option Nat} {base : Nat} {wr w2 w3 : World} {v : Value} {i : Nat} {T : Nat → Tr} {A : Nat → Ad} {a : Ad} {g cap : Nat} (h : Twin n base w2 v i T A)
    (_hwr : wr.heap.size ≤ w2.heap.size) (hbase : base ≤ wr.heap.size) (hvw : ∀ k, v.ownBlock = some k → k < wr.heap.size) (hnw : ∀ k, n = some k → k < wr.heap.size)
    (hT : LiesS (fun k => wr.heap.size ≤ k ∧ k < w2.heap.size) w2 (T i) a)
    (hown : w3.ownsRow base 34 6 (.slice (some ⟨g, 0, none⟩) (i + 1) cap) (i + 1) (flat i (fun j => (T j).cs (A j)) ++ (T i).cs a)) (hgr : w2.grownBy w3 v.ownBlock) (hat : v.ownBlock = some g ∨ g = w2.heap.size) :
    Twin n base w3 (.slice (some ⟨g, 0, none⟩) (i + 1) cap) (i + 1) T (fun j => if j = i then a else A j) := by
  refine ⟨?_, fun j hj => ?_⟩
  · have e1 : flat (i + 1) (fun j => (T j).cs (if j = i then a else A j)) = flat i (fun j => (T j).cs (A j)) ++ (T i).cs a := by
      show flat i (fun j => (T j).cs (if j = i then a else A j)) ++ (T i).cs (if i = i then a else A i) = _
      rw [if_pos rfl, flat_congr (fun j hj => by rw [if_neg (by omega)])]
    rw [e1]
    exact hown
  · have hfix : ∀ k, (base ≤ k ∧ k < w2.heap.size ∧ some k ≠ v.ownBlock ∧ some k ≠ n) → (base ≤ k ∧ k < w3.heap.size ∧ some k ≠ (Value.slice (some ⟨g, 0, none⟩) (i + 1) cap).ownBlock ∧ some k ≠ n) := fun k hh => ⟨hh.1, Nat.lt_of_lt_of_le hh.2.1 hgr.size, fun he => by
      injection he with he
      have he' : k = g := he
      rcases hat with h1 | h1
      · exact hh.2.2.1 (by rw [h1, he'])
      · omega, hh.2.2.2⟩
    by_cases hji : j = i
    · subst hji
      show LiesS _ w3 (T j) (if j = j then a else A j)
      rw [if_pos rfl]
      refine ((hT.up (fun k hh => ?_)).kept (fun k (hh : base ≤ k ∧ k < w2.heap.size ∧ some k ≠ v.ownBlock ∧ some k ≠ n) => hgr.block k hh.2.1 hh.2.2.1)).up hfix
      exact ⟨by omega, hh.2, fun he => by have := hvw k he.symm; omega, fun he => by have := hnw k he.symm; omega⟩
    · show LiesS _ w3 (T j) (if j = i then a else A j)
      rw [if_neg hji]
      exact ((h.lies j (by omega)).kept (fun k hh => hgr.block k hh.2.1 hh.2.2.1)).up hfix
set_option maxRecDepth 100000 in
theorem Nms.parts {base : Nat} {w2 w3 : World} {v u : Value} {l : List ByteArray} {i : Nat} {xs : List Value} (hN : Nms base w2 u l) (h : w2.ownsRow base 34 6 v i xs) (hgr : w2.grownBy w3 v.ownBlock) : Nms base w3 u l :=
  own_kept hN (fun k hv => hgr.block k (own_lt hN k hv).2.1 (own_ne hN h (by decide) k hv))
set_option maxRecDepth 100000 in
theorem Twin.done {n : Option Nat} {S : Nat → Prop} {base : Nat} {wr : World} {v : Value} {m : Nat} {T : Nat → Tr} {A : Nat → Ad} (h : Twin n base wr v m T A) (hb : ∀ k, base ≤ k → k < wr.heap.size → S k) :
    ∃ pa pc, v = .slice pa m pc ∧ (m ≤ pc ∧ pc ≤ maxLen) ∧ (0 < m → ∃ b o, pa = some ⟨b, o, none⟩ ∧ S b ∧ ∀ i, i < m → At6 wr b (o + i * 6) (T i) (A i)) ∧ ∀ i, i < m → LiesS S wr (T i) (A i) := by
  have hl : ∀ i, i < m → LiesS S wr (T i) (A i) := fun i hi => (h.lies i hi).up (fun k hh => hb k hh.1 hh.2.1)
  rcases h.own.2 with ⟨rfl, h0⟩ | ⟨g, cap, cur, rfl, h1, h2, h3, h4, _, h6⟩
  · exact ⟨none, 0, by rw [h0], ⟨by omega, by unfold maxLen; omega⟩, fun hm => by omega, hl⟩
  · exact ⟨_, _, rfl, ⟨h3, h4⟩, fun _ => ⟨g, 0, rfl, hb g h1 (lt_of_row h2), fun i hi => at6_of_flat h2 h6 hi⟩, hl⟩
set_option maxRecDepth 100000 in
theorem Nms.done {S : Nat → Prop} {base : Nat} {wr : World} {u : Value} {l : List ByteArray} (h : Nms base wr u l) (hs : ∀ s ∈ l, s.size ≤ maxLen) (hb : ∀ k, base ≤ k → k < wr.heap.size → S k) :
    ∃ na nc, u = .slice na l.length nc ∧ NamesS S wr l.length (fun i => l.getD i ⟨#[]⟩) na nc := by
  have hsz : ∀ i, i < l.length → (l.getD i ⟨#[]⟩).size ≤ maxLen := fun i hi => by
    rw [List.getD_eq_getElem?_getD, List.getElem?_eq_getElem hi]
    exact hs _ (List.getElem_mem hi)
  rcases h.2 with ⟨rfl, h0⟩ | ⟨g, cap, cur, rfl, h1, h2, h3, h4, _, h6⟩
  · exact ⟨none, 0, by rw [h0], by omega, by unfold maxLen; omega, hsz, fun hm => by omega⟩
  · refine ⟨_, _, rfl, h3, h4, hsz, fun _ => ⟨g, 0, rfl, hb g h1 (lt_of_row h2), fun i hi => ?_⟩⟩
    rw [Nat.zero_add, cell_of_row wr g i cur _ _ h2]
    have h7 : (cur.toList.take (l.length * 1))[i]? = (strs l)[i]? := by rw [h6]
    rw [List.getElem?_take_of_lt (by omega)] at h7
    rw [← Array.getElem?_toList, h7, strs, List.getElem?_map, List.getElem?_eq_getElem hi]
    show _ = some (Value.string (l.getD i ⟨#[]⟩))
    rw [List.getD_eq_getElem?_getD, List.getElem?_eq_getElem hi]
    rfl
set_option maxRecDepth 100000 in
theorem info9 : (Tryz.prog.info? 9).map (fun i => (i.zero, i.size, i.bytes)) = some (some (.string ⟨#[]⟩), 1, 16) := by kernel_rfl
end Go.Proofs.YtniljoojoafiaaaGreatDoor.V
namespace Go.Proofs.YtniljoojoafiaaaGreatDoor.V
open Go.RowKit
set_option maxRecDepth 100000 in
theorem tk_bad {n i : Nat} {b : UInt8} {r : List UInt8} (h : (0 < i ∧ b.toNat = 0) ∨ (i = 9 ∧ 1 < b.toNat)) : tk n i (b :: r) = ⟨0, 0, 6⟩ := by unfold tk; rw [if_pos h]
set_option maxRecDepth 100000 in
theorem tk_end {n i : Nat} {b : UInt8} {r : List UInt8} (h : ¬ ((0 < i ∧ b.toNat = 0) ∨ (i = 9 ∧ 1 < b.toNat))) (h2 : b.toNat < 128) : tk n i (b :: r) = ⟨n + b.toNat % 128 * 128 ^ i, i + 1, 0⟩ := by unfold tk; rw [if_neg h, if_pos h2]
set_option maxRecDepth 100000 in
theorem tk_on {n i : Nat} {b : UInt8} {r : List UInt8} (h : ¬ ((0 < i ∧ b.toNat = 0) ∨ (i = 9 ∧ 1 < b.toNat))) (h2 : ¬ b.toNat < 128) : tk n i (b :: r) = tk (n + b.toNat % 128 * 128 ^ i) (i + 1) r := by rw [tk, if_neg h, if_neg h2]
set_option maxRecDepth 100000 in
theorem drop_at (s : ByteArray) (i : Nat) (h : i < s.size) : s.data.toList.drop i = s[i] :: s.data.toList.drop (i + 1) := by
  have hl : i < s.data.toList.length := by simpa using h
  rw [List.drop_eq_getElem_cons hl]; rfl
set_option maxRecDepth 100000 in
theorem pow128 (i : Nat) : (2 : Nat) ^ (i * 7) = 128 ^ i := by
  rw [Nat.mul_comm, Nat.pow_mul]
set_option maxRecDepth 100000 in
theorem or_val {n i b : Nat} (hi : i ≤ 9) (hn : n < 128 ^ i) (hb : i = 9 → b ≤ 1) : bits BinOp.or IntKind.u64 (n : Int) (IntKind.u64.wrap ((b : Int) % 128 * 2 ^ (i * 7))) = ((n + b % 128 * 128 ^ i : Nat) : Int) := by
  have h64 := step_lt64 hi hn hb
  have e : ((b : Int) % 128 * 2 ^ (i * 7)) = ((b % 128 * 128 ^ i : Nat) : Int) := by
    rw [← pow128]; push_cast; rfl
  rw [e, IntKind.wrap_u64, Int.emod_eq_of_lt (by omega) (by omega), u64_or_nat _ _ (by omega) (by omega)]
  congr 1
  rw [← pow128] at hn ⊢
  rw [Nat.mul_comm (b % 128), Nat.add_comm n, Nat.two_pow_add_eq_or_of_lt hn, Nat.or_comm]
set_option maxRecDepth 100000 in
theorem or_val9 {n b : Nat} (hn : n < 128 ^ 9) (hb : b ≤ 1) : bits BinOp.or IntKind.u64 (n : Int) ((b : Int) % 128 * 9223372036854775808) = ((n + b % 128 * 128 ^ 9 : Nat) : Int) := by
  have h := or_val (i := 9) (b := b) (by omega) hn (fun _ => hb)
  rw [← h]
  congr 1
  rw [IntKind.wrap_u64]
  have e : (2 : Int) ^ (9 * 7) = 9223372036854775808 := by decide
  rw [e]
  omega
set_option maxRecDepth 100000 in
theorem or_val0 {n b : Nat} (hn : n < 128 ^ 0) : bits BinOp.or IntKind.u64 (n : Int) ((b : Int) % 128) = ((n + b % 128 * 128 ^ 0 : Nat) : Int) := by
  have h := or_val (i := 0) (b := b) (by omega) hn (by omega)
  rw [← h]
  congr 1
  rw [IntKind.wrap_u64]
  simp only [Nat.zero_mul, Int.pow_zero, Int.mul_one]
  omega
end Go.Proofs.YtniljoojoafiaaaGreatDoor.V
namespace Go.Proofs.YtniljoojoafiaaaGreatDoor.V
open Go.RowKit
set_option maxRecDepth 100000 in
theorem drop_extract (s : ByteArray) (o : Nat) : (s.extract o s.size).data.toList = s.data.toList.drop o := by
  rw [Lib.extract_data, List.take_of_length_le]
  rw [List.length_drop, ← Lib.size_eq]; exact Nat.le_refl _
def cnt (T : Tk) (most : Int) : Tk := if T.er = 0 ∧ (most < 0 ∨ most < (T.n : Int)) then ⟨0, 0, 3⟩ else T
set_option maxRecDepth 100000 in
theorem extract2 (s : ByteArray) (a n : Nat) (h : a + n ≤ s.size) : (s.extract a s.size).extract 0 n = s.extract a (a + n) := by
  have e : ((s.extract a s.size).extract 0 n).data.toList = (s.extract a (a + n)).data.toList := by
    rw [Lib.extract_data, Lib.extract_data, Lib.extract_data, List.drop_zero, Nat.sub_zero, List.take_take]
    congr 1; omega
  have e2 := Array.toList_inj.mp e
  exact ByteArray.ext e2
end Go.Proofs.YtniljoojoafiaaaGreatDoor.V
namespace Go.Proofs.YtniljoojoafiaaaGreatDoor.V
open Go.RowKit
end Go.Proofs.YtniljoojoafiaaaGreatDoor.V
namespace Go.Proofs.YtniljoojoafiaaaGreatDoor.V
open Go.RowKit
structure Ans (α : Type) where
  v : α
  o : Nat
  e : Int
def tkA (s : ByteArray) (o : Nat) : Tk := tk 0 0 (s.data.toList.drop o)
set_option maxRecDepth 100000 in
theorem tkA_err {s : ByteArray} {o : Nat} : (tkA s o).er ≠ 0 → (tkA s o).n = 0 ∧ (tkA s o).sz = 0 := tk_err
set_option maxRecDepth 100000 in
theorem tkA_bound {s : ByteArray} {o : Nat} (ho : o ≤ s.size) : (tkA s o).n < 18446744073709551616 ∧ o + (tkA s o).sz ≤ s.size ∧ (tkA s o).sz ≤ 10 := by
  obtain ⟨h1, h2, h3⟩ := tk_bound (r := s.data.toList.drop o) (n := 0) (i := 0) (by omega) (by decide)
  refine ⟨h1, ?_, h3⟩
  rw [List.length_drop, ← Lib.size_eq] at h2
  show o + (tk 0 0 (s.data.toList.drop o)).sz ≤ s.size
  omega
def uintA (s : ByteArray) (o : Nat) (er : Int) : Ans Nat := if er = 0 then ⟨(tkA s o).n, o + (tkA s o).sz, (tkA s o).er⟩ else ⟨0, o, er⟩
def zag (n : Nat) : Int := if n % 2 = 1 then -((n / 2 : Nat) : Int) - 1 else ((n / 2 : Nat) : Int)
def countA (s : ByteArray) (o : Nat) (er m : Int) : Ans Nat := if er = 0 then ⟨(cnt (tkA s o) m).n, o + (cnt (tkA s o) m).sz, (cnt (tkA s o) m).er⟩ else ⟨0, o, er⟩
set_option maxRecDepth 100000 in
theorem cnt_err {T : Tk} {m : Int} (h : T.er ≠ 0 → T.n = 0 ∧ T.sz = 0) : (cnt T m).er ≠ 0 → (cnt T m).n = 0 ∧ (cnt T m).sz = 0 := by
  unfold cnt
  split
  · exact fun _ => ⟨rfl, rfl⟩
  · exact h
set_option maxRecDepth 100000 in
theorem cnt_sz {T : Tk} {m : Int} : (cnt T m).sz ≤ T.sz ∧ (cnt T m).n ≤ T.n := by
  unfold cnt
  split
  · exact ⟨Nat.zero_le _, Nat.zero_le _⟩
  · exact ⟨Nat.le_refl _, Nat.le_refl _⟩
set_option maxRecDepth 100000 in
theorem cnt_most {T : Tk} {m : Int} (h : (cnt T m).er = 0) : 0 ≤ m ∧ ((cnt T m).n : Int) ≤ m := by
  unfold cnt at h ⊢
  split
  · rename_i h1; rw [if_pos h1] at h; exact absurd h (by decide)
  · rename_i h1; rw [if_neg h1] at h
    have : ¬ (m < 0 ∨ m < (T.n : Int)) := fun k => h1 ⟨h, k⟩
    omega
set_option maxRecDepth 100000 in
theorem uintA_lt {s : ByteArray} {o : Nat} {er : Int} (ho : o ≤ s.size) : (uintA s o er).v < 18446744073709551616 := by
  unfold uintA
  split
  · exact (tkA_bound ho).1
  · show (0 : Nat) < _; decide
end Go.Proofs.YtniljoojoafiaaaGreatDoor.V
namespace Go.Proofs.YtniljoojoafiaaaGreatDoor.V
open Go.RowKit
def bytesA (s : ByteArray) (o : Nat) (er n : Int) : Ans ByteArray :=
  if er = 0 then (if n < 0 then ⟨⟨#[]⟩, o, 1⟩ else if (s.size : Int) - (o : Int) < n then ⟨⟨#[]⟩, o, 4⟩ else ⟨s.extract o (o + n.toNat), o + n.toNat, 0⟩) else ⟨⟨#[]⟩, o, er⟩
def textA (s : ByteArray) (o : Nat) (er m : Int) : Ans ByteArray :=
  if er = 0 then
    (if (cnt (tkA s o) (min m 1048576)).er = 0 then
      (if s.size < o + (cnt (tkA s o) (min m 1048576)).sz + (cnt (tkA s o) (min m 1048576)).n then ⟨⟨#[]⟩, o, 4⟩
       else ⟨s.extract (o + (cnt (tkA s o) (min m 1048576)).sz) (o + (cnt (tkA s o) (min m 1048576)).sz + (cnt (tkA s o) (min m 1048576)).n), o + (cnt (tkA s o) (min m 1048576)).sz + (cnt (tkA s o) (min m 1048576)).n, 0⟩)
     else ⟨⟨#[]⟩, o, (cnt (tkA s o) (min m 1048576)).er⟩)
  else ⟨⟨#[]⟩, o, er⟩
def byteAt (s : ByteArray) (o : Nat) : Nat := (s.data.toList.getD o 0).toNat
def boolA (s : ByteArray) (o : Nat) (er : Int) : Ans Bool :=
  if er = 0 then (if o < s.size then (if 1 < byteAt s o then ⟨false, o, 6⟩ else ⟨(byteAt s o : Int) == 1, o + 1, 0⟩) else ⟨false, o, 4⟩) else ⟨false, o, er⟩
end Go.Proofs.YtniljoojoafiaaaGreatDoor.V
namespace Go.Proofs.YtniljoojoafiaaaGreatDoor.V
open Go.RowKit
end Go.Proofs.YtniljoojoafiaaaGreatDoor.V
namespace Go.Proofs.YtniljoojoafiaaaGreatDoor.V
open Go.RowKit
set_option maxRecDepth 100000 in
theorem ext1 (s : ByteArray) (o : Nat) (h : o < s.size) : (s.extract o (o + 1)).data.toList = [s.data.toList.getD o 0] := by
  have hl : o < s.data.toList.length := by rw [← Lib.size_eq]; exact h
  rw [Lib.extract_data, List.drop_eq_getElem_cons hl, Nat.add_sub_cancel_left]
  rw [List.getD_eq_getElem?_getD, List.getElem?_eq_getElem hl]
  rfl
set_option maxRecDepth 100000 in
theorem ext1' (s : ByteArray) (o : Nat) (h : o < s.size) : s.extract o (o + 1) = ⟨#[s.data.toList.getD o 0]⟩ := by
  have e := ext1 s o h
  exact ByteArray.ext (Array.toList_inj.mp e)
end Go.Proofs.YtniljoojoafiaaaGreatDoor.V
namespace Go.Proofs.YtniljoojoafiaaaGreatDoor.V
open Go.RowKit
structure Tak where
  t : Tr
  o : Nat
  e : Int
structure St where
  ns : List ByteArray
  ts : List Tr
  o : Nat
  e : Int
def leafT (k : Int) (b : Bool) (n : Int) (s : ByteArray) : Tr := .mk k b n s 0 (fun _ => .no) 0 (fun _ => ⟨#[]⟩)
def nodeT (k : Int) (x : St) : Tr := .mk k false 0 ⟨#[]⟩ x.ts.length (fun i => x.ts.getD i .no) x.ns.length (fun i => x.ns.getD i ⟨#[]⟩)
def nameA (s : ByteArray) (six : Bool) (x : St) : Ans ByteArray := if six then textA s x.o x.e 16 else ⟨⟨#[]⟩, x.o, x.e⟩
def stepA (s : ByteArray) (six : Bool) (T : Nat → Int → Tak) (x : St) : St :=
  ⟨if six then x.ns ++ [(nameA s six x).v] else x.ns, x.ts ++ [(T (nameA s six x).o (nameA s six x).e).t], (T (nameA s six x).o (nameA s six x).e).o, (T (nameA s six x).o (nameA s six x).e).e⟩
def runA (s : ByteArray) (six : Bool) (T : Nat → Int → Tak) (x : St) : Nat → St
  | 0 => x
  | n + 1 => stepA s six T (runA s six T x n)
def nodeA (s : ByteArray) (k o : Nat) (T : Nat → Int → Tak) : Tak :=
  if k = 0 then ⟨leafT 0 false 0 ⟨#[]⟩, o, 0⟩
  else if k = 1 then ⟨leafT 1 (boolA s o 0).v 0 ⟨#[]⟩, (boolA s o 0).o, (boolA s o 0).e⟩
  else if k = 2 then ⟨leafT 2 false (zag (uintA s o 0).v) ⟨#[]⟩, (uintA s o 0).o, (uintA s o 0).e⟩
  else if k = 3 ∨ k = 4 then ⟨leafT k false 0 (textA s o 0 1024).v, (textA s o 0 1024).o, (textA s o 0 1024).e⟩
  else if k = 5 ∨ k = 6 then
    ⟨nodeT k (runA s (k == 6) T ⟨[], [], (countA s o 0 32).o, (countA s o 0 32).e⟩ (countA s o 0 32).v), (runA s (k == 6) T ⟨[], [], (countA s o 0 32).o, (countA s o 0 32).e⟩ (countA s o 0 32).v).o, (runA s (k == 6) T ⟨[], [], (countA s o 0 32).o, (countA s o 0 32).e⟩ (countA s o 0 32).v).e⟩
  else ⟨leafT k false 0 ⟨#[]⟩, o, 6⟩
def takeA (s : ByteArray) : Nat → Nat → Int → Tak
  | 0, o, e => ⟨leafT 0 false 0 ⟨#[]⟩, o, if e = 0 then 30 else e⟩
  | D + 1, o, e => if e = 0 then (if o < s.size then nodeA s (byteAt s o) (o + 1) (takeA s D) else ⟨leafT 0 false 0 ⟨#[]⟩, o, 4⟩) else ⟨leafT 0 false 0 ⟨#[]⟩, o, e⟩
set_option maxRecDepth 100000 in
theorem lies_leaf {S : Nat → Prop} {w : World} {k : Int} {b : Bool} {n : Int} {s : ByteArray} (hk : -9223372036854775808 ≤ k ∧ k < 9223372036854775808) (hn : -9223372036854775808 ≤ n ∧ n < 9223372036854775808) (hs : s.size ≤ maxLen) : LiesS S w (leafT k b n s) ⟨none, 0, none, 0⟩ :=
  .mk (fun _ => ⟨none, 0, none, 0⟩) hk hn hs ⟨Nat.le_refl _, Nat.zero_le _⟩ (fun h => by omega) (fun i hi => by omega) ⟨Nat.le_refl _, Nat.zero_le _, fun i hi => by omega, fun h => by omega⟩
end Go.Proofs.YtniljoojoafiaaaGreatDoor.V
namespace Go.Proofs.YtniljoojoafiaaaGreatDoor.V
open Go.RowKit
set_option maxRecDepth 100000 in
set_option maxHeartbeats 1000000 in
theorem cloneAll_none (a : Option Addr) (c : Nat) (w : World) : Calls Tryz.prog 61 #[.slice a 0 c] w fun r w' => r = .returned (.slice none 0 0) ∧ w' = w := by
  go_enter Tryz.func61, Tryz.ntmps61
  go_wp2
  go_ret
  exact ⟨rfl, rfl⟩
set_option maxRecDepth 100000 in
set_option maxHeartbeats 1000000 in
theorem clone_leaf (k : Int) (b : Bool) (n : Int) (s : ByteArray) (w : World) : Calls Tryz.prog 37 #[(leafT k b n s).val ⟨none, 0, none, 0⟩] w fun r w' => r = .returned ((leafT k b n s).val ⟨none, 0, none, 0⟩) ∧ Below w.heap.size w w' := by
  show Calls Tryz.prog 37 #[.agg #[.int .i64 k, .bool b, .int .i64 n, .string s, .slice none 0 0, .slice none 0 0]] w _
  go_enter Tryz.func37, Tryz.ntmps37
  go_wp2_with fail
  refine (cloneAll_none _ _ _).mono ?_
  rintro r w1 ⟨rfl, rfl⟩
  go_wp2
  exact bodyPost_ret (v := .agg #[.int .i64 k, .bool b, .int .i64 n, .string s, .slice none 0 0, .slice none 0 0]) (by simp [results, Tryz.results37, go_sem]) rfl ⟨rfl, ((Below.refl _ w).alloc (Nat.le_refl _) _).alloc (by simp) _⟩
end Go.Proofs.YtniljoojoafiaaaGreatDoor.V
