/- math/bits.Len and merkle.half, the document's half: the greatest power of two below a number. The tree of RFC 6962 as plain functions: halves, roots, what shows a leaf, what shows growth; whether a way shows them, from the top (the program) and from the bottom (the document): each other's. merkle.half and the document's half, called: the greatest power of two below a number. A list of strings that lies somewhere. Lists that a call makes itself, one element behind the other: of strings, of yes and no, of lists; what the types are. A tree's memory: its block, its list of rows, the rows, each in a block of its own (Fst); what is pushed to a row, and a new row. Rows of eight and of four cells that are stored cell by cell. A tree of leaves as it lies in memory (Tre): row k holds the roots of the parts of 2^k leaves; what a new leaf does to the rows, as plain facts. -/
import Derived.Test.YtaocbkloafhmeaaDoorLeaves
import Derived.WalkKit
import Derived.WalkSpells
import Derived.WalkLawsBesides
import Derived.Lib.Strings
import Derived.Lib.Small
import Derived.Lib.Walk
import Derived.Lib.Tables
import Derived.Deep.QuietTactic
import Derived.BigQuiet
import Derived.BigGuardPart
import Derived.OwnWalk
import Derived.Deep.AppendLies
namespace Go.Proofs.YtaocbkloafhmeaaDoor
open Go.RowKit
theorem len8_log : ∀ n : Fin 256, Lib.len8 (n.val : Int) = (if n.val = 0 then 0 else (Nat.log2 n.val + 1 : Nat) : Int) := by decide +kernel
theorem len8_at (y : Nat) (h1 : 1 ≤ y) (h2 : y < Lib.len8tab.size) : (Lib.len8tab[y]'h2).toNat = Nat.log2 y + 1 := by
  have h3 : y < 256 := by rw [Lib.len8tab_size] at h2; exact h2
  have e := len8_log ⟨y, h3⟩
  rw [if_neg (show ¬ y = 0 by omega)] at e
  simp only [Lib.len8, Int.toNat_natCast, ByteArray.getElem?_lt' _ _ h2, Option.getD_some] at e
  exact Int.ofNat_inj.1 e
theorem log2_small {y : Nat} (h : y < 256) : Nat.log2 y < 8 := by
  by_cases h0 : y = 0
  · subst h0; decide
  · exact (Nat.log2_lt h0).2 h
theorem log2_div (x k : Nat) (h : 2 ^ k ≤ x) : Nat.log2 x = Nat.log2 (x / 2 ^ k) + k := by
  have hx : x ≠ 0 := by have := Nat.two_pow_pos k; omega
  have hp := Nat.two_pow_pos k
  have hd : x / 2 ^ k ≠ 0 := by have := Nat.div_pos h hp; omega
  have a : Nat.log2 (x / 2 ^ k) + k ≤ Nat.log2 x := by
    rw [Nat.le_log2 hx, Nat.pow_add]
    have := Nat.log2_self_le hd
    calc 2 ^ (x / 2 ^ k).log2 * 2 ^ k ≤ x / 2 ^ k * 2 ^ k := Nat.mul_le_mul_right _ this
      _ ≤ x := Nat.div_mul_le_self x _
  have b : Nat.log2 x < Nat.log2 (x / 2 ^ k) + k + 1 := by
    rw [Nat.log2_lt hx, show Nat.log2 (x / 2 ^ k) + k + 1 = (Nat.log2 (x / 2 ^ k) + 1) + k by omega, Nat.pow_add]
    have := Nat.lt_log2_self (n := x / 2 ^ k)
    rw [Nat.div_lt_iff_lt_mul hp] at this
    exact this
  omega
theorem len24 (x : Int) (k : Nat) (c : Int) (hc : c = k) (hk : k ≤ 24) (y : Int) (hy : y.toNat = x.toNat / 2 ^ k) (h0 : 1 ≤ y) (h2 : y < 256) (h : y.toNat < Lib.len8tab.size) (h3 : 2 ^ k ≤ x.toNat) :
    wrap64 (c + wrap64 ((Lib.len8tab[y.toNat]'h).toNat : Int)) = ((Nat.log2 x.toNat + 1 : Nat) : Int) := by
  have e := log2_div x.toNat k h3
  rw [len8_at _ (by omega)]
  have := log2_small (y := y.toNat) (by omega)
  rw [← hy] at e
  unfold wrap64
  omega
theorem len0 (x : Int) (h0 : 1 ≤ x) (h2 : x < 256) (h : x.toNat < Lib.len8tab.size) :
    wrap64 (wrap64 ((Lib.len8tab[x.toNat]'h).toNat : Int)) = ((Nat.log2 x.toNat + 1 : Nat) : Int) := by
  rw [len8_at _ (by omega)]
  have := log2_small (y := x.toNat) (by omega)
  unfold wrap64
  omega
theorem dv24 (x : Int) (h : 256 ≤ x / 65536) (h2 : x < 4294967296) : (x / 65536 / 256).toNat = x.toNat / 2 ^ 24 ∧ 1 ≤ x / 65536 / 256 ∧ x / 65536 / 256 < 256 ∧ 2 ^ 24 ≤ x.toNat := by omega
theorem dv16 (x : Int) (h : 65536 ≤ x) (h2 : x / 65536 < 256) : (x / 65536).toNat = x.toNat / 2 ^ 16 ∧ 1 ≤ x / 65536 ∧ x / 65536 < 256 ∧ 2 ^ 16 ≤ x.toNat := by omega
theorem dv8 (x : Int) (h : 256 ≤ x) (h2 : x < 65536) : (x / 256).toNat = x.toNat / 2 ^ 8 ∧ 1 ≤ x / 256 ∧ x / 256 < 256 ∧ 2 ^ 8 ≤ x.toNat := by omega
set_option maxHeartbeats 1000000 in
set_option maxRecDepth 20000 in
theorem len64_any (x : Int) (h1 : 1 ≤ x) (h2 : x < 4294967296) (w : World) :
    Calls Tryd.prog 107 #[.int .u64 x] w fun e w' => e = .returned (.int .i64 ((Nat.log2 x.toNat + 1 : Nat) : Int)) ∧ w' = w := by
  have hz : Lib.len8tab.size = 256 := rfl
  go_enter Tryd.func107, Tryd.ntmps107
  go_wp2
  all_goals (go_ret; refine ⟨congrArg Ending.returned (congrArg (Value.int IntKind.i64) ?_), rfl⟩)
  · rename_i a b c d
    obtain ⟨e1, e2, e3, e4⟩ := dv24 x c h2
    exact len24 x 24 24 rfl (by decide) _ e1 e2 e3 _ e4
  · rename_i a b c d
    obtain ⟨e1, e2, e3, e4⟩ := dv16 x b c
    exact len24 x 16 16 rfl (by decide) _ e1 e2 e3 _ e4
  · rename_i a b c d
    obtain ⟨e1, e2, e3, e4⟩ := dv8 x c b
    exact len24 x 8 8 rfl (by decide) _ e1 e2 e3 _ e4
  · rename_i a b c d
    exact len0 x h1 c _
theorem len_any (x : Int) (h1 : 1 ≤ x) (h2 : x < 4294967296) (w : World) :
    Calls Tryd.prog 99 #[.int .u64 x] w fun e w' => e = .returned (.int .i64 ((Nat.log2 x.toNat + 1 : Nat) : Int)) ∧ w' = w := by
  obtain ⟨r, hr⟩ : ∃ r : Int, ((Nat.log2 x.toNat + 1 : Nat) : Int) = r := ⟨_, rfl⟩
  have H := fun w => len64_any x h1 h2 w
  rw [hr]
  simp only [hr] at H
  clear hr
  go_enter Tryd.func99, Tryd.ntmps99
  go_wp2_with fail
  refine (H _).mono ?_
  rintro e w' ⟨rfl, rfl⟩
  go_wp2
  go_ret
  exact ⟨rfl, rfl⟩
end Go.Proofs.YtaocbkloafhmeaaDoor
namespace Go.Proofs.YtaocbkloafhmeaaDoor
def nodeS (a b : ByteArray) : ByteArray := sumS (nodeT a b)
def noneS : ByteArray := sumS ⟨#[]⟩
def half (n : Nat) : Nat := 2 ^ Nat.log2 (n - 1)
theorem half_pos (n : Nat) : 0 < half n := Nat.two_pow_pos _
theorem half_lt {n : Nat} (h : 2 ≤ n) : half n < n := by
  unfold half
  have := Nat.log2_self_le (n := n - 1) (by omega)
  omega
theorem half_twice {n : Nat} (h : 2 ≤ n) : n ≤ 2 * half n := by
  unfold half
  have := Nat.lt_log2_self (n := n - 1)
  rw [Nat.pow_succ] at this
  omega
theorem half_unique {n k : Nat} (h1 : 2 ^ k < n) (h2 : n ≤ 2 * 2 ^ k) : half n = 2 ^ k := by
  unfold half
  congr 1
  have h0 : n - 1 ≠ 0 := by have := Nat.two_pow_pos k; omega
  have a : k ≤ Nat.log2 (n - 1) := (Nat.le_log2 h0).2 (by omega)
  have b : Nat.log2 (n - 1) < k + 1 := (Nat.log2_lt h0).2 (by rw [Nat.pow_succ]; omega)
  omega
def rootF (f : Nat → ByteArray) : Nat → Nat → Nat → ByteArray
  | 0, _, _ => noneS
  | F + 1, o, n => if n = 0 then noneS else if n = 1 then f o else nodeS (rootF f F o (half n)) (rootF f F (o + half n) (n - half n))
theorem rootF_fuel (f : Nat → ByteArray) : ∀ F G o n, n ≤ F → n ≤ G → rootF f F o n = rootF f G o n
  | 0, 0, _, _, _, _ => rfl
  | 0, G + 1, o, n, h1, _ => by
    obtain rfl : n = 0 := by omega
    rfl
  | F + 1, 0, o, n, _, h2 => by
    obtain rfl : n = 0 := by omega
    rfl
  | F + 1, G + 1, o, n, h1, h2 => by
    by_cases h : 2 ≤ n
    · have a := half_lt h
      have b := half_pos n
      simp only [rootF]
      rw [if_neg (by omega), if_neg (by omega), if_neg (by omega), if_neg (by omega), rootF_fuel f F G o (half n) (by omega) (by omega), rootF_fuel f F G (o + half n) (n - half n) (by omega) (by omega)]
    · simp only [rootF]
      by_cases h0 : n = 0
      · rw [if_pos h0, if_pos h0]
      · rw [if_neg h0, if_neg h0, if_pos (by omega), if_pos (by omega)]
def rootR (f : Nat → ByteArray) (o n : Nat) : ByteArray := rootF f n o n
theorem rootR_zero (f : Nat → ByteArray) (o : Nat) : rootR f o 0 = noneS := rfl
theorem rootR_one (f : Nat → ByteArray) (o : Nat) : rootR f o 1 = f o := rfl
theorem rootR_two (f : Nat → ByteArray) (o : Nat) {n : Nat} (h : 2 ≤ n) : rootR f o n = nodeS (rootR f o (half n)) (rootR f (o + half n) (n - half n)) := by
  have a := half_lt h
  have b := half_pos n
  obtain ⟨k, rfl⟩ : ∃ k, n = k + 1 := ⟨n - 1, by omega⟩
  unfold rootR
  rw [rootF_fuel f (half (k + 1)) k o (half (k + 1)) (by omega) (by omega), rootF_fuel f (k + 1 - half (k + 1)) k (o + half (k + 1)) (k + 1 - half (k + 1)) (by omega) (by omega)]
  show (if k + 1 = 0 then noneS else if k + 1 = 1 then f o else _) = _
  rw [if_neg (by omega), if_neg (by omega)]
theorem rootF_congr (f g : Nat → ByteArray) : ∀ F o n, n ≤ F → (∀ i, o ≤ i → i < o + n → f i = g i) → rootF f F o n = rootF g F o n
  | 0, _, _, _, _ => rfl
  | F + 1, o, n, h, hf => by
    simp only [rootF]
    by_cases h0 : n = 0
    · rw [if_pos h0, if_pos h0]
    · rw [if_neg h0, if_neg h0]
      by_cases h1 : n = 1
      · rw [if_pos h1, if_pos h1]; exact hf o (by omega) (by omega)
      · rw [if_neg h1, if_neg h1]
        have a := half_lt (n := n) (by omega)
        have b := half_pos n
        rw [rootF_congr f g F o (half n) (by omega) (fun i h1 h2 => hf i h1 (by omega)), rootF_congr f g F (o + half n) (n - half n) (by omega) (fun i h1 h2 => hf i (by omega) (by omega))]
theorem rootR_congr (f g : Nat → ByteArray) (o n : Nat) (hf : ∀ i, o ≤ i → i < o + n → f i = g i) : rootR f o n = rootR g o n :=
  rootF_congr f g n o n (Nat.le_refl _) hf
theorem half_pow (k : Nat) : half (2 ^ (k + 1)) = 2 ^ k := half_unique (by rw [Nat.pow_succ]; have := Nat.two_pow_pos k; omega) (by rw [Nat.pow_succ]; omega)
theorem rootR_pow (f : Nat → ByteArray) (o k : Nat) : rootR f o (2 ^ (k + 1)) = nodeS (rootR f o (2 ^ k)) (rootR f (o + 2 ^ k) (2 ^ k)) := by
  have := Nat.two_pow_pos k
  rw [rootR_two f o (by rw [Nat.pow_succ]; omega), half_pow, show 2 ^ (k + 1) - 2 ^ k = 2 ^ k by rw [Nat.pow_succ]; omega]
def pathF (f : Nat → ByteArray) : Nat → Nat → Nat → Nat → List ByteArray
  | 0, _, _, _ => []
  | F + 1, m, o, n => if n ≤ 1 then [] else if m < half n then pathF f F m o (half n) ++ [rootR f (o + half n) (n - half n)] else pathF f F (m - half n) (o + half n) (n - half n) ++ [rootR f o (half n)]
theorem pathF_fuel (f : Nat → ByteArray) : ∀ F G m o n, n ≤ F → n ≤ G → pathF f F m o n = pathF f G m o n
  | 0, 0, _, _, _, _, _ => rfl
  | 0, G + 1, m, o, n, h1, _ => by
    obtain rfl : n = 0 := by omega
    rfl
  | F + 1, 0, m, o, n, _, h2 => by
    obtain rfl : n = 0 := by omega
    rfl
  | F + 1, G + 1, m, o, n, h1, h2 => by
    simp only [pathF]
    by_cases h : n ≤ 1
    · rw [if_pos h, if_pos h]
    · have a := half_lt (n := n) (by omega)
      have b := half_pos n
      rw [if_neg h, if_neg h, pathF_fuel f F G m o (half n) (by omega) (by omega), pathF_fuel f F G (m - half n) (o + half n) (n - half n) (by omega) (by omega)]
def pathR (f : Nat → ByteArray) (m o n : Nat) : List ByteArray := pathF f n m o n
theorem pathR_one (f : Nat → ByteArray) (m o : Nat) : pathR f m o 1 = [] := rfl
theorem pathR_step (f : Nat → ByteArray) (m o : Nat) {n : Nat} (h : 2 ≤ n) : pathR f m o n = if m < half n then pathR f m o (half n) ++ [rootR f (o + half n) (n - half n)] else pathR f (m - half n) (o + half n) (n - half n) ++ [rootR f o (half n)] := by
  have a := half_lt h
  have b := half_pos n
  obtain ⟨k, rfl⟩ : ∃ k, n = k + 1 := ⟨n - 1, by omega⟩
  unfold pathR
  rw [pathF_fuel f (half (k + 1)) k m o (half (k + 1)) (by omega) (by omega), pathF_fuel f (k + 1 - half (k + 1)) k (m - half (k + 1)) (o + half (k + 1)) (k + 1 - half (k + 1)) (by omega) (by omega)]
  show (if k + 1 ≤ 1 then [] else _) = _
  rw [if_neg (by omega)]
theorem pathR_left (f : Nat → ByteArray) (m o : Nat) {n : Nat} (h : 2 ≤ n) (hm : m < half n) : pathR f m o n = pathR f m o (half n) ++ [rootR f (o + half n) (n - half n)] := by
  rw [pathR_step f m o h, if_pos hm]
theorem pathR_right (f : Nat → ByteArray) (m o : Nat) {n : Nat} (h : 2 ≤ n) (hm : ¬ m < half n) : pathR f m o n = pathR f (m - half n) (o + half n) (n - half n) ++ [rootR f o (half n)] := by
  rw [pathR_step f m o h, if_neg hm]
def grownF (f : Nat → ByteArray) : Nat → Nat → Nat → Nat → Bool → List ByteArray
  | 0, _, _, _, _ => []
  | F + 1, m, o, n, kn => if m = n then (if kn = true then [] else [rootR f o n]) else if m ≤ half n then grownF f F m o (half n) kn ++ [rootR f (o + half n) (n - half n)] else grownF f F (m - half n) (o + half n) (n - half n) false ++ [rootR f o (half n)]
theorem grownF_fuel (f : Nat → ByteArray) : ∀ F G m o n kn, 1 ≤ m → m ≤ n → n ≤ F → n ≤ G → grownF f F m o n kn = grownF f G m o n kn
  | 0, 0, _, _, _, _, _, _, _, _ => rfl
  | 0, G + 1, m, o, n, _, _, _, h1, _ => by omega
  | F + 1, 0, m, o, n, _, _, _, _, h2 => by omega
  | F + 1, G + 1, m, o, n, kn, h1, h2, h3, h4 => by
    simp only [grownF]
    by_cases h : m = n
    · rw [if_pos h, if_pos h]
    · have a := half_lt (n := n) (by omega)
      have b := half_pos n
      rw [if_neg h, if_neg h]
      by_cases hh : m ≤ half n
      · rw [if_pos hh, if_pos hh, grownF_fuel f F G m o (half n) kn h1 hh (by omega) (by omega)]
      · rw [if_neg hh, if_neg hh, grownF_fuel f F G (m - half n) (o + half n) (n - half n) false (by omega) (by omega) (by omega) (by omega)]
def grownR (f : Nat → ByteArray) (m o n : Nat) (kn : Bool) : List ByteArray := grownF f n m o n kn
theorem grownR_all (f : Nat → ByteArray) (o : Nat) {n : Nat} (h : 1 ≤ n) : grownR f n o n true = [] := by
  obtain ⟨k, rfl⟩ : ∃ k, n = k + 1 := ⟨n - 1, by omega⟩
  show (if k + 1 = k + 1 then (if true = true then [] else _) else _) = _
  rw [if_pos rfl, if_pos rfl]
theorem grownR_one (f : Nat → ByteArray) (o : Nat) {n : Nat} (h : 1 ≤ n) : grownR f n o n false = [rootR f o n] := by
  obtain ⟨k, rfl⟩ : ∃ k, n = k + 1 := ⟨n - 1, by omega⟩
  show (if k + 1 = k + 1 then (if false = true then [] else _) else _) = _
  rw [if_pos rfl, if_neg (by decide)]
theorem grownR_left (f : Nat → ByteArray) (m o : Nat) {n : Nat} (kn : Bool) (h1 : 1 ≤ m) (hm : m < n) (hh : m ≤ half n) : grownR f m o n kn = grownR f m o (half n) kn ++ [rootR f (o + half n) (n - half n)] := by
  have a := half_lt (n := n) (by omega)
  have b := half_pos n
  obtain ⟨k, rfl⟩ : ∃ k, n = k + 1 := ⟨n - 1, by omega⟩
  unfold grownR
  rw [grownF_fuel f (half (k + 1)) k m o (half (k + 1)) kn h1 hh (by omega) (by omega)]
  show (if m = k + 1 then _ else _) = _
  rw [if_neg (by omega), if_pos hh]
theorem grownR_right (f : Nat → ByteArray) (m o : Nat) {n : Nat} (kn : Bool) (h1 : 1 ≤ m) (hm : m < n) (hh : ¬ m ≤ half n) : grownR f m o n kn = grownR f (m - half n) (o + half n) (n - half n) false ++ [rootR f o (half n)] := by
  have a := half_lt (n := n) (by omega)
  have b := half_pos n
  obtain ⟨k, rfl⟩ : ∃ k, n = k + 1 := ⟨n - 1, by omega⟩
  unfold grownR
  rw [grownF_fuel f (k + 1 - half (k + 1)) k (m - half (k + 1)) (o + half (k + 1)) (k + 1 - half (k + 1)) false (by omega) (by omega) (by omega) (by omega)]
  show (if m = k + 1 then _ else _) = _
  rw [if_neg (by omega), if_neg hh]
def rb (leaf : ByteArray) : Nat → Nat → List ByteArray → ByteArray × Bool
  | _, n, [] => if n = 1 then (leaf, true) else (⟨#[]⟩, false)
  | m, n, top :: rest =>
    if n = 1 then (leaf, false) else if top.size = 32 then
      (if m < half n then (nodeS (rb leaf m (half n) rest).1 top, (rb leaf m (half n) rest).2) else (nodeS top (rb leaf (m - half n) (n - half n) rest).1, (rb leaf (m - half n) (n - half n) rest).2))
    else (⟨#[]⟩, false)
def rbs (old : ByteArray) : Nat → Nat → Bool → List ByteArray → ByteArray × ByteArray × Bool
  | m, n, kn, [] => if m = n ∧ kn = true then (old, old, true) else (⟨#[]⟩, ⟨#[]⟩, false)
  | m, n, kn, top :: rest =>
    if m = n ∧ kn = true then (old, old, false) else if top.size = 32 then
      (if m = n then (top, top, rest.length == 0) else if m ≤ half n then ((rbs old m (half n) kn rest).1, nodeS (rbs old m (half n) kn rest).2.1 top, (rbs old m (half n) kn rest).2.2) else (nodeS top (rbs old (m - half n) (n - half n) false rest).1, nodeS top (rbs old (m - half n) (n - half n) false rest).2.1, (rbs old (m - half n) (n - half n) false rest).2.2))
    else (⟨#[]⟩, ⟨#[]⟩, false)
def up : ByteArray → List ByteArray → List Bool → Option ByteArray
  | h, [], [] => some h
  | h, x :: xs, t :: ts => if x.size = 32 then up (if t = true then nodeS x h else nodeS h x) xs ts else none
  | _, _, _ => none
theorem up_snoc : ∀ (xs : List ByteArray) (ts : List Bool) (h x : ByteArray) (t : Bool), up h (xs ++ [x]) (ts ++ [t]) = (up h xs ts).bind (fun r => if x.size = 32 then some (if t = true then nodeS x r else nodeS r x) else none)
  | [], [], h, x, t => by
    show (if x.size = 32 then up _ [] [] else none) = _
    rfl
  | [], s :: ts, h, x, t => by
    show (if x.size = 32 then up _ [] (ts ++ [t]) else none) = none
    split
    · cases ts <;> rfl
    · rfl
  | y :: xs, [], h, x, t => by
    show (if y.size = 32 then up _ (xs ++ [x]) [] else none) = none
    split
    · cases xs <;> rfl
    · rfl
  | y :: xs, s :: ts, h, x, t => by
    show (if y.size = 32 then up _ (xs ++ [x]) (ts ++ [t]) else none) = (if y.size = 32 then up _ xs ts else none).bind _
    split
    · exact up_snoc xs ts _ x t
    · rfl
def turnsF : Nat → Nat → Nat → List Bool
  | 0, _, _ => []
  | F + 1, m, n => if n ≤ 1 then [] else if m < half n then false :: turnsF F m (half n) else true :: turnsF F (m - half n) (n - half n)
theorem turnsF_fuel : ∀ F G m n, n ≤ F → n ≤ G → turnsF F m n = turnsF G m n
  | 0, 0, _, _, _, _ => rfl
  | 0, G + 1, m, n, h1, _ => by
    obtain rfl : n = 0 := by omega
    rfl
  | F + 1, 0, m, n, _, h2 => by
    obtain rfl : n = 0 := by omega
    rfl
  | F + 1, G + 1, m, n, h1, h2 => by
    simp only [turnsF]
    by_cases h : n ≤ 1
    · rw [if_pos h, if_pos h]
    · have a := half_lt (n := n) (by omega)
      have b := half_pos n
      rw [if_neg h, if_neg h, turnsF_fuel F G m (half n) (by omega) (by omega), turnsF_fuel F G (m - half n) (n - half n) (by omega) (by omega)]
def turns (m n : Nat) : List Bool := turnsF n m n
theorem turns_one (m : Nat) {n : Nat} (h : n ≤ 1) : turns m n = [] := by
  rcases (by omega : n = 0 ∨ n = 1) with rfl | rfl <;> rfl
theorem turns_left (m : Nat) {n : Nat} (h : 2 ≤ n) (hm : m < half n) : turns m n = false :: turns m (half n) := by
  have a := half_lt h
  obtain ⟨k, rfl⟩ : ∃ k, n = k + 1 := ⟨n - 1, by omega⟩
  unfold turns
  rw [turnsF_fuel (half (k + 1)) k m (half (k + 1)) (by omega) (by omega)]
  show (if k + 1 ≤ 1 then [] else _) = _
  rw [if_neg (by omega), if_pos hm]
theorem turns_right (m : Nat) {n : Nat} (h : 2 ≤ n) (hm : ¬ m < half n) : turns m n = true :: turns (m - half n) (n - half n) := by
  have a := half_lt h
  have b := half_pos n
  obtain ⟨k, rfl⟩ : ∃ k, n = k + 1 := ⟨n - 1, by omega⟩
  unfold turns
  rw [turnsF_fuel (k + 1 - half (k + 1)) k (m - half (k + 1)) (k + 1 - half (k + 1)) (by omega) (by omega)]
  show (if k + 1 ≤ 1 then [] else _) = _
  rw [if_neg (by omega), if_neg hm]
def okv (p : ByteArray × Bool) : Option ByteArray := if p.2 = true then some p.1 else none
theorem up_rb (leaf : ByteArray) : ∀ (r : List ByteArray) (m n : Nat), 1 ≤ n → up leaf r.reverse (turns m n).reverse = okv (rb leaf m n r)
  | [], m, n, hn => by
    simp only [rb]
    by_cases h : n = 1
    · subst h
      rw [turns_one m (Nat.le_refl _)]
      rfl
    · rw [if_neg h]
      by_cases hm : m < half n
      · rw [turns_left m (by omega) hm, List.reverse_cons]
        show up leaf [] _ = none
        cases (turns m (half n)).reverse <;> rfl
      · rw [turns_right m (by omega) hm, List.reverse_cons]
        show up leaf [] _ = none
        cases (turns (m - half n) (n - half n)).reverse <;> rfl
  | x :: r, m, n, hn => by
    rw [List.reverse_cons]
    simp only [rb]
    by_cases h : n = 1
    · subst h
      rw [turns_one m (Nat.le_refl _), if_pos rfl]
      show up leaf (r.reverse ++ [x]) [] = none
      cases r.reverse <;> rfl
    · rw [if_neg h]
      have a := half_lt (n := n) (by omega)
      have b := half_pos n
      by_cases hm : m < half n
      · rw [turns_left m (by omega) hm, List.reverse_cons, up_snoc, up_rb leaf r m (half n) b, if_pos hm]
        by_cases hx : x.size = 32
        · rw [if_pos hx]
          by_cases ho : (rb leaf m (half n) r).2 = true
          · simp [okv, ho, hx]
          · simp [okv, ho]
        · rw [if_neg hx]
          cases okv (rb leaf m (half n) r) <;> simp [okv, hx]
      · rw [turns_right m (by omega) hm, List.reverse_cons, up_snoc, up_rb leaf r (m - half n) (n - half n) (by omega), if_neg hm]
        by_cases hx : x.size = 32
        · rw [if_pos hx]
          by_cases ho : (rb leaf (m - half n) (n - half n) r).2 = true
          · simp [okv, ho, hx]
          · simp [okv, ho]
        · rw [if_neg hx]
          cases okv (rb leaf (m - half n) (n - half n) r) <;> simp [okv, hx]
def up2 : ByteArray → ByteArray → List ByteArray → List Bool → Option (ByteArray × ByteArray)
  | a, b, [], [] => some (a, b)
  | a, b, x :: xs, t :: ts => if x.size = 32 then up2 (if t = true then nodeS x a else a) (if t = true then nodeS x b else nodeS b x) xs ts else none
  | _, _, _, _ => none
theorem up2_snoc : ∀ (xs : List ByteArray) (ts : List Bool) (a b x : ByteArray) (t : Bool), up2 a b (xs ++ [x]) (ts ++ [t]) = (up2 a b xs ts).bind (fun r => if x.size = 32 then some (if t = true then nodeS x r.1 else r.1, if t = true then nodeS x r.2 else nodeS r.2 x) else none)
  | [], [], a, b, x, t => by
    show (if x.size = 32 then up2 _ _ [] [] else none) = _
    rfl
  | [], s :: ts, a, b, x, t => by
    show (if x.size = 32 then up2 _ _ [] (ts ++ [t]) else none) = none
    split
    · cases ts <;> rfl
    · rfl
  | y :: xs, [], a, b, x, t => by
    show (if y.size = 32 then up2 _ _ (xs ++ [x]) [] else none) = none
    split
    · cases xs <;> rfl
    · rfl
  | y :: xs, s :: ts, a, b, x, t => by
    show (if y.size = 32 then up2 _ _ (xs ++ [x]) (ts ++ [t]) else none) = (if y.size = 32 then up2 _ _ xs ts else none).bind _
    split
    · exact up2_snoc xs ts _ _ x t
    · rfl
def gturnsF : Nat → Nat → Nat → List Bool
  | 0, _, _ => []
  | F + 1, m, n => if n ≤ m then [] else if m ≤ half n then false :: gturnsF F m (half n) else true :: gturnsF F (m - half n) (n - half n)
theorem gturnsF_fuel : ∀ F G m n, 1 ≤ m → n ≤ F → n ≤ G → gturnsF F m n = gturnsF G m n
  | 0, 0, _, _, _, _, _ => rfl
  | 0, G + 1, m, n, _, h1, _ => by
    obtain rfl : n = 0 := by omega
    show [] = (if 0 ≤ m then [] else _)
    rw [if_pos (by omega)]
  | F + 1, 0, m, n, _, _, h2 => by
    obtain rfl : n = 0 := by omega
    show (if 0 ≤ m then [] else _) = []
    rw [if_pos (by omega)]
  | F + 1, G + 1, m, n, h0, h1, h2 => by
    simp only [gturnsF]
    by_cases h : n ≤ m
    · rw [if_pos h, if_pos h]
    · have a := half_lt (n := n) (by omega)
      have b := half_pos n
      rw [if_neg h, if_neg h]
      by_cases hh : m ≤ half n
      · rw [if_pos hh, if_pos hh, gturnsF_fuel F G m (half n) h0 (by omega) (by omega)]
      · rw [if_neg hh, if_neg hh, gturnsF_fuel F G (m - half n) (n - half n) (by omega) (by omega) (by omega)]
def gturns (m n : Nat) : List Bool := gturnsF n m n
theorem gturns_all (n : Nat) : gturns n n = [] := by
  cases n with
  | zero => rfl
  | succ k =>
    show (if k + 1 ≤ k + 1 then [] else _) = []
    rw [if_pos (Nat.le_refl _)]
theorem gturns_left {m n : Nat} (h1 : 1 ≤ m) (h : m < n) (hm : m ≤ half n) : gturns m n = false :: gturns m (half n) := by
  have a := half_lt (n := n) (by omega)
  obtain ⟨k, rfl⟩ : ∃ k, n = k + 1 := ⟨n - 1, by omega⟩
  unfold gturns
  rw [gturnsF_fuel (half (k + 1)) k m (half (k + 1)) h1 (by omega) (by omega)]
  show (if k + 1 ≤ m then [] else _) = _
  rw [if_neg (by omega), if_pos hm]
theorem gturns_right {m n : Nat} (h1 : 1 ≤ m) (h : m < n) (hm : ¬ m ≤ half n) : gturns m n = true :: gturns (m - half n) (n - half n) := by
  have a := half_lt (n := n) (by omega)
  have b := half_pos n
  obtain ⟨k, rfl⟩ : ∃ k, n = k + 1 := ⟨n - 1, by omega⟩
  unfold gturns
  rw [gturnsF_fuel (k + 1 - half (k + 1)) k (m - half (k + 1)) (k + 1 - half (k + 1)) (by omega) (by omega) (by omega)]
  show (if k + 1 ≤ m then [] else _) = _
  rw [if_neg (by omega), if_neg hm]
def conS (old : ByteArray) (right : Bool) (way : List ByteArray) (ts : List Bool) : Option (ByteArray × ByteArray) :=
  if right = true then (match way with
    | [] => none
    | x :: xs => if x.size = 32 then up2 x x xs ts else none)
  else up2 old old way ts
theorem conS_snoc (old : ByteArray) (right : Bool) (ws : List ByteArray) (x : ByteArray) (ts : List Bool) (t : Bool) :
    conS old right (ws ++ [x]) (ts ++ [t]) = (conS old right ws ts).bind (fun r => if x.size = 32 then some (if t = true then nodeS x r.1 else r.1, if t = true then nodeS x r.2 else nodeS r.2 x) else none) := by
  unfold conS
  cases right with
  | false => exact up2_snoc ws ts old old x t
  | true =>
    cases ws with
    | nil =>
      show (if x.size = 32 then up2 x x [] (ts ++ [t]) else none) = none
      split
      · cases ts <;> rfl
      · rfl
    | cons y ys =>
      show (if y.size = 32 then up2 y y (ys ++ [x]) (ts ++ [t]) else none) = (if y.size = 32 then up2 y y ys ts else none).bind _
      split
      · exact up2_snoc ys ts y y x t
      · rfl
theorem conS_nil (old : ByteArray) (right : Bool) (ts : List Bool) (t : Bool) : conS old right [] (ts ++ [t]) = none := by
  unfold conS
  cases right with
  | false => cases ts <;> rfl
  | true => rfl
def okv2 (p : ByteArray × ByteArray × Bool) : Option (ByteArray × ByteArray) := if p.2.2 = true then some (p.1, p.2.1) else none
theorem up_rbs (old : ByteArray) : ∀ (r : List ByteArray) (m n : Nat) (kn : Bool), 1 ≤ m → m ≤ n →
    conS old ((!kn) || (gturns m n).any id) r.reverse (gturns m n).reverse = okv2 (rbs old m n kn r)
  | [], m, n, kn, h1, hn => by
    simp only [rbs]
    by_cases h : m = n
    · subst h
      rw [gturns_all]
      cases kn <;> simp [conS, up2, okv2]
    · rw [if_neg (fun c => h c.1)]
      by_cases hm : m ≤ half n
      · rw [gturns_left h1 (by omega) hm, List.reverse_cons, List.reverse_nil, conS_nil]
        rfl
      · rw [gturns_right h1 (by omega) hm, List.reverse_cons, List.reverse_nil, conS_nil]
        rfl
  | x :: r, m, n, kn, h1, hn => by
    rw [List.reverse_cons]
    simp only [rbs]
    by_cases h : m = n
    · subst h
      rw [gturns_all]
      cases kn with
      | true =>
        rw [if_pos ⟨rfl, rfl⟩]
        show conS old false (r.reverse ++ [x]) [] = none
        show up2 old old (r.reverse ++ [x]) [] = none
        cases r.reverse <;> rfl
      | false =>
        rw [if_neg (by simp), if_pos rfl]
        show conS old true (r.reverse ++ [x]) [] = _
        cases r with
        | nil =>
          show (if x.size = 32 then up2 x x [] [] else none) = _
          split <;> rfl
        | cons y ys =>
          rw [List.reverse_cons, List.append_assoc]
          have e2 : ∀ (l : List ByteArray), conS old true (l ++ ([y] ++ [x])) [] = none := fun l => by
            cases l with
            | nil =>
              show (if y.size = 32 then up2 y y [x] [] else none) = none
              split <;> rfl
            | cons z zs =>
              show (if z.size = 32 then up2 z z (zs ++ ([y] ++ [x])) [] else none) = none
              split
              · cases zs <;> rfl
              · rfl
          rw [e2]
          split <;> simp [okv2]
    · rw [if_neg (fun c => h c.1), if_neg h]
      have a := half_lt (n := n) (by omega)
      have b := half_pos n
      by_cases hm : m ≤ half n
      · rw [gturns_left h1 (by omega) hm, List.reverse_cons, List.any_cons, conS_snoc, if_pos hm]
        have ih := up_rbs old r m (half n) kn h1 hm
        rw [show (id false || (gturns m (half n)).any id) = (gturns m (half n)).any id from by simp, ih]
        by_cases hx : x.size = 32
        · rw [if_pos hx]
          by_cases ho : (rbs old m (half n) kn r).2.2 = true
          · simp [okv2, ho, hx]
          · simp [okv2, ho]
        · rw [if_neg hx]
          cases okv2 (rbs old m (half n) kn r) <;> simp [okv2, hx]
      · rw [gturns_right h1 (by omega) hm, List.reverse_cons, List.any_cons, conS_snoc, if_neg hm]
        have ih := up_rbs old r (m - half n) (n - half n) false (by omega) (by omega)
        rw [show ((!kn) || (id true || (gturns (m - half n) (n - half n)).any id)) = ((!false) || (gturns (m - half n) (n - half n)).any id) from by simp, ih]
        by_cases hx : x.size = 32
        · rw [if_pos hx]
          by_cases ho : (rbs old (m - half n) (n - half n) false r).2.2 = true
          · simp [okv2, ho, hx]
          · simp [okv2, ho]
        · rw [if_neg hx]
          cases okv2 (rbs old (m - half n) (n - half n) false r) <;> simp [okv2, hx]
end Go.Proofs.YtaocbkloafhmeaaDoor
namespace Go.Proofs.YtaocbkloafhmeaaDoor
open Go.RowKit
theorem pow_wrap (r : Nat) (h : r < 32) : wrap64 (2 ^ r) = ((2 ^ r : Nat) : Int) := by
  have h1 : (2 : Nat) ^ r ≤ 2 ^ 31 := Nat.pow_le_pow_right (by omega) (by omega)
  have h2 : ((2 : Int) ^ r) = ((2 ^ r : Nat) : Int) := by simp
  rw [h2]
  have h3 := Nat.two_pow_pos r
  generalize (2 : Nat) ^ r = z at h1 h3 ⊢
  unfold wrap64
  omega
set_option maxHeartbeats 1000000 in
theorem half_any (n : Int) (h1 : 2 ≤ n) (h2 : n ≤ 2147483648) (w : World) :
    Calls Tryd.prog 79 #[.int .i64 n] w fun e w' => e = .returned (.int .i64 ((half n.toNat : Nat) : Int)) ∧ w' = w := by
  have H := fun w => len_any (n - 1) (by omega) (by omega) w
  obtain ⟨r, hr⟩ : ∃ r : Nat, Nat.log2 (n - 1).toNat = r := ⟨_, rfl⟩
  have hh : half n.toNat = 2 ^ r := by
    unfold half
    rw [← hr]
    congr 2
    omega
  rw [hr] at H
  rw [hh]
  have hr2 : r < 32 := by
    rw [← hr, Nat.log2_lt (by omega)]
    omega
  have H2 : Hid (Nat.log2 (n - 1).toNat = r) := hr
  clear hr hh
  go_enter Tryd.func79, Tryd.ntmps79
  go_wp2_with fail
  refine (H _).mono ?_
  rintro e w' ⟨rfl, rfl⟩
  go_wp2
  go_ret
  refine ⟨congrArg Ending.returned (congrArg (Value.int IntKind.i64) ?_), rfl⟩
  exact pow_wrap r hr2
theorem intOf_i64 (x : Int) : intOf (.int .i64 x) = x := rfl
set_option maxHeartbeats 1000000 in
theorem rhalf_any (n : Int) (h1 : 2 ≤ n) (h2 : n ≤ 2147483648) (w : World) :
    Calls Tryd.prog 80 #[.int .i64 n] w fun e w' => e = .returned (.int .i64 ((half n.toNat : Nat) : Int)) ∧ w' = w := by
  obtain ⟨r, hr⟩ : ∃ r : Int, ((half n.toNat : Nat) : Int) = r := ⟨_, rfl⟩
  rw [hr]
  have H2 : Hid (((half n.toNat : Nat) : Int) = r) := hr
  clear hr
  go_enter Tryd.func80, Tryd.ntmps80
  go_wp2
  go_loopw [3] (fun v wr => ∃ k : Int, ∃ j : Nat, Hid (k = ((2 ^ j : Nat) : Int)) ∧ 1 ≤ k ∧ k < n ∧ v = .int .i64 k ∧ wr = w) (fun v _ => (n - intOf v).toNat)
  case atStart => exact ⟨1, 0, rfl, by omega, by omega, rfl, rfl⟩
  case round =>
    obtain ⟨k, j, hk, hk1, hk2, rfl, rfl⟩ := hrel
    by_cases hlt : k + k < n
    · go_wp2
      go_roundw
      case rel => exact ⟨k + k, j + 1, by unfold Hid; rw [hk.out, Nat.pow_succ]; omega, by omega, hlt, rfl, by trivial⟩
      case measure =>
        show (n - (k + k)).toNat < (n - k).toNat
        omega
    · go_wp2
      go_ret
      have e : ((half n.toNat : Nat) : Int) = k := by
        rw [half_unique (n := n.toNat) (k := j) (by have := hk.out; omega) (by have := hk.out; omega)]
        exact hk.out.symm
      exact ⟨congrArg (fun z => Ending.returned (Value.int .i64 z)) (e.symm.trans H2.out), rfl⟩
end Go.Proofs.YtaocbkloafhmeaaDoor
namespace Go.Proofs.YtaocbkloafhmeaaDoor
open Go.RowKit
structure Strs (w : World) (p : Option Addr) (n c : Nat) (g : Nat → ByteArray) : Prop where
  cap : n ≤ c ∧ c ≤ maxLen
  at' : 0 < n → ∃ b o, p = some ⟨b, o, none⟩ ∧ b < w.heap.size ∧ ∀ i, i < n → w.cell? ⟨b, o + i, none⟩ = some (.string (g i))
theorem Strs.later {w w' : World} {p : Option Addr} {n c : Nat} {g : Nat → ByteArray} (h : Strs w p n c g) (hb : Below w.heap.size w w') : Strs w' p n c g := by
  refine ⟨h.cap, fun hn => ?_⟩
  obtain ⟨b, o, h1, h2, h3⟩ := h.at' hn
  exact ⟨b, o, h1, Nat.lt_of_lt_of_le h2 hb.size, fun i hi => (hb.cell (p := ⟨b, o + i, none⟩) h2).trans (h3 i hi)⟩
theorem Strs.less {w : World} {p : Option Addr} {n c : Nat} {g : Nat → ByteArray} (h : Strs w p n c g) (m : Nat) (hm : m ≤ n) : Strs w p m c g := by
  refine ⟨⟨Nat.le_trans hm h.cap.1, h.cap.2⟩, fun hn => ?_⟩
  obtain ⟨b, o, h1, h2, h3⟩ := h.at' (by omega)
  exact ⟨b, o, h1, h2, fun i hi => h3 i (by omega)⟩
theorem sumS_size (s : ByteArray) : (sumS s).size = 32 := by
  unfold sumS sumB digB
  rw [Lib.size_eq]
  exact digW_len _ 8
theorem half_int (n : Int) (h : 2 ≤ n) : ∃ k : Int, ((half n.toNat : Nat) : Int) = k ∧ 1 ≤ k ∧ k < n ∧ n ≤ 2 * k ∧ half n.toNat = k.toNat := by
  have a := half_lt (n := n.toNat) (by omega)
  have b := half_pos n.toNat
  have c := half_twice (n := n.toNat) (by omega)
  exact ⟨_, rfl, by omega, by omega, by omega, by omega⟩
end Go.Proofs.YtaocbkloafhmeaaDoor
namespace Go.Proofs.YtaocbkloafhmeaaDoor
open Go.RowKit
theorem info9 : (Tryd.prog.info? 9).map (fun i => (i.zero, i.size, i.bytes)) = some (some (.string ⟨#[]⟩), 1, 16) := by kernel_rfl
theorem info4 : (Tryd.prog.info? 4).map (fun i => (i.zero, i.size, i.bytes)) = some (some (.bool false), 1, 1) := by kernel_rfl
theorem info22 : (Tryd.prog.info? 71).map (fun i => (i.zero, i.size, i.bytes)) = some (some (.slice none 0 0), 1, 24) := by kernel_rfl
def strs (l : List ByteArray) : List Value := l.map .string
def boos (l : List Bool) : List Value := l.map .bool
theorem strs_len (l : List ByteArray) : (strs l).length = l.length := List.length_map ..
theorem boos_len (l : List Bool) : (boos l).length = l.length := List.length_map ..
theorem strs_snoc (l : List ByteArray) (x : ByteArray) : strs (l ++ [x]) = strs l ++ [.string x] := by simp [strs]
theorem boos_snoc (l : List Bool) (x : Bool) : boos (l ++ [x]) = boos l ++ [.bool x] := by simp [boos]
theorem own_cell {w : World} {base : Nat} {e : TypeId} {v : Value} {n : Nat} {xs : List Value} (h : w.ownsRow base e 1 v n xs) (hn : 0 < n) :
    ∃ g cap, v = .slice (some ⟨g, 0, none⟩) n cap ∧ base ≤ g ∧ g < w.heap.size ∧ (n ≤ cap ∧ cap ≤ maxLen) ∧ ∀ i x, xs[i]? = some x → w.cell? ⟨g, i, none⟩ = some x := by
  obtain ⟨hl, h0⟩ := h
  rcases h0 with ⟨_, h0⟩ | ⟨g, cap, cur, rfl, h1, h2, h3, h4, h5, h6⟩
  · omega
  · refine ⟨g, cap, rfl, h1, lt_of_row h2, ⟨h3, h4⟩, fun i x hx => ?_⟩
    have hi : i < n := by
      have := (List.getElem?_eq_some_iff.1 hx).1
      omega
    rw [cell_of_row w g i cur e _ h2]
    rw [← h6, List.getElem?_take_of_lt (by omega)] at hx
    simpa using hx
theorem own_slice {w : World} {base : Nat} {e : TypeId} {v : Value} {n : Nat} {xs : List Value} (h : w.ownsRow base e 1 v n xs) : ∃ p cap, v = .slice p n cap ∧ (n ≤ cap ∧ cap ≤ maxLen) := by
  obtain ⟨hl, h0⟩ := h
  rcases h0 with ⟨rfl, h0⟩ | ⟨g, cap, cur, rfl, h1, h2, h3, h4, h5, h6⟩
  · exact ⟨none, 0, by rw [h0], by unfold maxLen; omega⟩
  · exact ⟨_, _, rfl, h3, h4⟩
theorem own_strs {w : World} {base : Nat} {v : Value} {n : Nat} {l : List ByteArray} (h : w.ownsRow base 9 1 v n (strs l)) : ∃ p cap, v = .slice p n cap ∧ Strs w p n cap (fun i => l.getD i ByteArray.empty) := by
  have hl : l.length = n := by have := h.1; rw [strs_len] at this; omega
  by_cases hn : 0 < n
  · obtain ⟨g, cap, rfl, _, h2, h3, h4⟩ := own_cell h hn
    refine ⟨_, _, rfl, h3, fun _ => ⟨g, 0, rfl, h2, fun i hi => ?_⟩⟩
    rw [Nat.zero_add]
    refine h4 i _ ?_
    simp [strs, List.getD_eq_getElem?_getD, show i < l.length by omega]
  · obtain ⟨p, cap, rfl, h3⟩ := own_slice h
    exact ⟨_, _, rfl, h3, fun h => absurd h hn⟩
theorem own_later {w w' : World} {base : Nat} {e : TypeId} {v : Value} {n : Nat} {xs : List Value} (h : w.ownsRow base e 1 v n xs) (hb : Below w.heap.size w w') : w'.ownsRow base e 1 v n xs := by
  refine ⟨h.1, ?_⟩
  rcases h.2 with h1 | ⟨g, cap, cur, h1, h2, h3, h4⟩
  · exact Or.inl h1
  · exact Or.inr ⟨g, cap, cur, h1, h2, (below_heap hb _ (lt_of_row h3)).trans h3, h4⟩
end Go.Proofs.YtaocbkloafhmeaaDoor
namespace Go.Proofs.YtaocbkloafhmeaaDoor
open Go.RowKit
theorem row_setCell {W : World} {g k : Nat} {cs : Array Value} {t : TypeId} {fr : Nat × Nat} (h : W.heap[g]? = some (.cells cs t fr)) (x : Value) :
    (W.setCell ⟨g, k, none⟩ x).heap[g]? = some (.cells (cs.setIfInBounds k x) t fr) := by
  have hl := lt_of_row h
  rw [Array.getElem?_eq_getElem hl] at h
  injection h with h
  unfold World.setCell
  rw [Array.getElem?_modify]
  simp [hl, h]
structure Fst (w : World) (S : Nat → Prop) (b : Nat) (pv : Value) (K : Nat) (V : Nat → Value) (L : Nat → List ByteArray) : Prop where
  blk : w.heap[b]? = some (.cells #[pv] 112 (0, 0))
  outer : w.ownsRow 0 71 1 pv K ((List.range K).map V)
  inner : ∀ k, k < K → w.ownsRow 0 9 1 (V k) (L k).length (strs (L k))
  inS : S b
  inP : ∀ g, pv.ownBlock = some g → S g
  inV : ∀ k, k < K → ∀ g, (V k).ownBlock = some g → S g
  apP : pv.ownBlock ≠ some b
  apV : ∀ k, k < K → (V k).ownBlock ≠ some b
  apO : ∀ k, k < K → ∀ g, (V k).ownBlock = some g → pv.ownBlock ≠ some g
  apR : ∀ j k, j < K → k < K → j ≠ k → ∀ g, (V j).ownBlock = some g → (V k).ownBlock ≠ some g
theorem own_kept {w w' : World} {base : Nat} {e : TypeId} {v : Value} {n : Nat} {xs : List Value} (h : w.ownsRow base e 1 v n xs) (hk : ∀ g, v.ownBlock = some g → w'.heap[g]? = w.heap[g]?) : w'.ownsRow base e 1 v n xs := by
  refine ⟨h.1, ?_⟩
  rcases h.2 with h1 | ⟨g, cap, cur, rfl, h2, h3, h4⟩
  · exact Or.inl h1
  · exact Or.inr ⟨g, cap, cur, rfl, h2, (hk g rfl).trans h3, h4⟩
theorem Fst.kept {w w' : World} {S : Nat → Prop} {b : Nat} {pv : Value} {K : Nat} {V : Nat → Value} {L : Nat → List ByteArray} (h : Fst w S b pv K V L) (hk : ∀ g, S g → w'.heap[g]? = w.heap[g]?) : Fst w' S b pv K V L :=
  { h with
    blk := (hk b h.inS).trans h.blk
    outer := own_kept h.outer (fun g hg => hk g (h.inP g hg))
    inner := fun k hk' => own_kept (h.inner k hk') (fun g hg => hk g (h.inV k hk' g hg)) }
theorem Fst.up {w : World} {S S' : Nat → Prop} {b : Nat} {pv : Value} {K : Nat} {V : Nat → Value} {L : Nat → List ByteArray} (h : Fst w S b pv K V L) (hS : ∀ g, S g → S' g) : Fst w S' b pv K V L :=
  { h with inS := hS _ h.inS, inP := fun g hg => hS g (h.inP g hg), inV := fun k hk g hg => hS g (h.inV k hk g hg) }
theorem Fst.congr {w : World} {S : Nat → Prop} {b : Nat} {pv : Value} {K : Nat} {V : Nat → Value} {L L' : Nat → List ByteArray} (h : Fst w S b pv K V L) (hL : ∀ k, k < K → L' k = L k) : Fst w S b pv K V L' :=
  { h with inner := fun k hk => by rw [hL k hk]; exact h.inner k hk }
theorem Fst.lts {w : World} {S : Nat → Prop} {b : Nat} {pv : Value} {K : Nat} {V : Nat → Value} {L : Nat → List ByteArray} (h : Fst w S b pv K V L) :
    b < w.heap.size ∧ (∀ g, pv.ownBlock = some g → g < w.heap.size) ∧ ∀ k, k < K → ∀ g, (V k).ownBlock = some g → g < w.heap.size :=
  ⟨lt_of_row h.blk, fun g hg => (h.outer.lt g hg).2, fun k hk g hg => ((h.inner k hk).lt g hg).2⟩
/- What a row that is grown leaves: the row of index k is another value with one text more; the list of rows has it. -/
theorem Fst.push {w w2 : World} {S : Nat → Prop} {b : Nat} {pv : Value} {K : Nat} {V : Nat → Value} {L : Nat → List ByteArray} (h : Fst w S b pv K V L) {k : Nat} (hk : k < K) {x : ByteArray} {g cap G c : Nat}
    (hown : w2.ownsRow 0 9 1 (.slice (some ⟨g, 0, none⟩) ((L k).length + 1) cap) ((L k).length + 1) (strs (L k) ++ [.string x]))
    (hbl : ∀ j, j < w.heap.size → some j ≠ (V k).ownBlock → w2.heap[j]? = w.heap[j]?)
    (hat : (V k).ownBlock = some g ∨ w.heap.size ≤ g) (hlt : g < w2.heap.size) (hG : pv = .slice (some ⟨G, 0, none⟩) K c) :
    Fst (w2.setCell ⟨G, k, none⟩ (.slice (some ⟨g, 0, none⟩) ((L k).length + 1) cap)) (fun j => S j ∨ (w.heap.size ≤ j ∧ j < w2.heap.size)) b pv K (fun j => if j = k then .slice (some ⟨g, 0, none⟩) ((L k).length + 1) cap else V j) (fun j => if j = k then L k ++ [x] else L j) := by
  obtain ⟨l1, l2, l3⟩ := h.lts
  have hGo : pv.ownBlock = some G := by rw [hG]; rfl
  have hGl := l2 G hGo
  have hbG : b ≠ G := fun e => h.apP (by rw [hGo, e])
  have hVG : (V k).ownBlock ≠ some G := fun e => h.apO k hk G e hGo
  have hgG : g ≠ G := by
    rcases hat with e | e
    · intro e2; rw [e2] at e; exact hVG e
    · omega
  have hgb : g ≠ b := by
    rcases hat with e | e
    · intro e2; rw [e2] at e; exact h.apV k hk e
    · omega
  have hset : ∀ j, j ≠ G → (w2.setCell ⟨G, k, none⟩ (.slice (some ⟨g, 0, none⟩) ((L k).length + 1) cap)).heap[j]? = w2.heap[j]? := fun j hj => Below.heap_setCell _ _ _ j hj
  have hVj : ∀ j, j < K → j ≠ k → ∀ q, (V j).ownBlock = some q → q ≠ G ∧ q ≠ g ∧ q < w.heap.size ∧ some q ≠ (V k).ownBlock := fun j hj hjk q hq => by
    refine ⟨fun e => h.apO j hj q hq (by rw [hGo, e]), ?_, l3 j hj q hq, fun e => h.apR j k hj hk hjk q hq e.symm⟩
    rcases hat with e | e
    · intro e2; exact h.apR j k hj hk hjk q hq (by rw [e, e2])
    · have := l3 j hj q hq; omega
  refine ⟨?_, ?_, ?_, Or.inl h.inS, fun q hq => Or.inl (h.inP q hq), ?_, h.apP, ?_, ?_, ?_⟩
  · rw [hset b hbG, hbl b l1 (fun e => h.apV k hk e.symm)]
    exact h.blk
  · obtain ⟨o1, o2⟩ := h.outer
    rcases o2 with ⟨o2, _⟩ | ⟨G', c', cur, o2, _, o3, o4, o5, o6, o7⟩
    · rw [hG] at o2; cases o2
    · rw [hG] at o2
      injection o2 with o2 _ oc
      injection o2 with o2
      injection o2 with o2 _ _
      subst o2
      subst oc
      have r2 : w2.heap[G]? = some (.cells cur 71 (0, 0)) := by rw [hbl G hGl (fun e => hVG e.symm)]; exact o3
      refine ⟨by simp, Or.inr ⟨G, c, cur.setIfInBounds k (.slice (some ⟨g, 0, none⟩) ((L k).length + 1) cap), ?_, Nat.zero_le _, row_setCell (k := k) r2 _, o4, o5, by simpa using o6, ?_⟩⟩
      · exact hG
      · have hlen : k < ((List.range K).map V).length := by simpa using hk
        rw [Array.toList_setIfInBounds, List.take_set, o7]
        apply List.ext_getElem?
        intro j
        rw [List.getElem?_set]
        by_cases hj : k = j
        · subst hj
          rw [if_pos rfl, if_pos (by simpa using hk)]
          simp [hk]
        · rw [if_neg hj]
          by_cases hjK : j < K
          · simp [hjK, show ¬ j = k from fun e => hj e.symm]
          · simp [hjK]
  · intro j hj
    by_cases hjk : j = k
    · subst hjk
      simp only [if_true]
      rw [strs_snoc, List.length_append]
      exact own_kept hown (fun q hq => by injection hq with hq; exact hset q (by rw [← hq]; exact hgG))
    · simp only [if_neg hjk]
      exact own_kept (h.inner j hj) (fun q hq => by
        obtain ⟨a1, a2, a3, a4⟩ := hVj j hj hjk q hq
        rw [hset q a1, hbl q a3 a4])
  · intro j hj q hq
    by_cases hjk : j = k
    · subst hjk
      simp only [if_true] at hq
      injection hq with hq
      have hq' : g = q := hq
      subst hq'
      rcases hat with e | e
      · exact Or.inl (h.inV j hj g e)
      · exact Or.inr ⟨e, hlt⟩
    · simp only [if_neg hjk] at hq
      exact Or.inl (h.inV j hj q hq)
  · intro j hj
    by_cases hjk : j = k
    · simp only [if_pos hjk]
      intro e
      injection e with e
      exact hgb e
    · simp only [if_neg hjk]
      exact h.apV j hj
  · intro j hj q hq
    by_cases hjk : j = k
    · simp only [if_pos hjk] at hq
      injection hq with hq
      have hq' : g = q := hq
      rw [hGo]
      intro e
      injection e with e
      omega
    · simp only [if_neg hjk] at hq
      exact h.apO j hj q hq
  · intro i j hi hj hij q hq
    by_cases hik : i = k
    · simp only [if_pos hik] at hq
      injection hq with hq
      have hq' : g = q := hq
      have hjk : j ≠ k := by omega
      simp only [if_neg hjk]
      intro e
      exact (hVj j hj hjk q e).2.1 hq'.symm
    · simp only [if_neg hik] at hq
      by_cases hjk : j = k
      · simp only [if_pos hjk]
        intro e
        injection e with e
        have e' : g = q := e
        exact (hVj i hi hik q hq).2.1 e'.symm
      · simp only [if_neg hjk]
        exact h.apR i j hi hj hij q hq
/- A new row, of nothing, behind the others. -/
theorem Fst.more {w w2 : World} {S : Nat → Prop} {b : Nat} {pv : Value} {K : Nat} {V : Nat → Value} {L : Nat → List ByteArray} (h : Fst w S b pv K V L) {g cap : Nat}
    (hown : w2.ownsRow 0 71 1 (.slice (some ⟨g, 0, none⟩) (K + 1) cap) (K + 1) ((List.range K).map V ++ [.slice none 0 0]))
    (hbl : ∀ j, j < w.heap.size → some j ≠ pv.ownBlock → w2.heap[j]? = w.heap[j]?)
    (hat : pv.ownBlock = some g ∨ w.heap.size ≤ g) (hlt : g < w2.heap.size) :
    Fst (w2.setCell ⟨b, 0, none⟩ (.slice (some ⟨g, 0, none⟩) (K + 1) cap)) (fun j => S j ∨ (w.heap.size ≤ j ∧ j < w2.heap.size)) b (.slice (some ⟨g, 0, none⟩) (K + 1) cap) (K + 1) (fun j => if j = K then .slice none 0 0 else V j) (fun j => if j = K then [] else L j) := by
  obtain ⟨l1, l2, l3⟩ := h.lts
  have hgb : g ≠ b := by
    rcases hat with e | e
    · intro e2; rw [e2] at e; exact h.apP e
    · omega
  have hset : ∀ j, j ≠ b → (w2.setCell ⟨b, 0, none⟩ (.slice (some ⟨g, 0, none⟩) (K + 1) cap)).heap[j]? = w2.heap[j]? := fun j hj => Below.heap_setCell _ _ _ j hj
  have hVg : ∀ j, j < K → ∀ q, (V j).ownBlock = some q → q ≠ g ∧ q ≠ b ∧ q < w.heap.size ∧ some q ≠ pv.ownBlock := fun j hj q hq => by
    refine ⟨?_, fun e => h.apV j hj (by rw [hq, e]), l3 j hj q hq, fun e => h.apO j hj q hq e.symm⟩
    rcases hat with e | e
    · intro e2; exact h.apO j hj q hq (by rw [e, e2])
    · have := l3 j hj q hq; omega
  have hjK : ∀ j, j < K + 1 → ¬ j = K → j < K := fun j h1 h2 => by omega
  refine ⟨?_, ?_, ?_, Or.inl h.inS, ?_, ?_, ?_, ?_, ?_, ?_⟩
  · have r2 : w2.heap[b]? = some (.cells #[pv] 112 (0, 0)) := by rw [hbl b l1 (fun e => h.apP e.symm)]; exact h.blk
    exact row_setCell (k := 0) r2 _
  · have e1 : (List.range (K + 1)).map (fun j => if j = K then Value.slice none 0 0 else V j) = (List.range K).map V ++ [.slice none 0 0] := by
      rw [List.range_succ, List.map_append]
      congr 1
      · apply List.map_congr_left
        intro j hj
        rw [if_neg (by have := List.mem_range.1 hj; omega)]
      · simp
    rw [e1]
    exact own_kept hown (fun q hq => by injection hq with hq; exact hset q (by rw [← hq]; exact hgb))
  · intro j hj
    by_cases hjk : j = K
    · simp only [if_pos hjk]
      exact ⟨rfl, Or.inl ⟨rfl, rfl⟩⟩
    · simp only [if_neg hjk]
      exact own_kept (h.inner j (hjK j hj hjk)) (fun q hq => by
        obtain ⟨a1, a2, a3, a4⟩ := hVg j (hjK j hj hjk) q hq
        rw [hset q a2, hbl q a3 a4])
  · intro q hq
    injection hq with hq
    have hq' : g = q := hq
    subst hq'
    rcases hat with e | e
    · exact Or.inl (h.inP g e)
    · exact Or.inr ⟨e, hlt⟩
  · intro j hj q hq
    by_cases hjk : j = K
    · simp only [if_pos hjk] at hq
      cases hq
    · simp only [if_neg hjk] at hq
      exact Or.inl (h.inV j (hjK j hj hjk) q hq)
  · intro e
    injection e with e
    exact hgb e
  · intro j hj
    by_cases hjk : j = K
    · simp only [if_pos hjk]
      intro e; cases e
    · simp only [if_neg hjk]
      exact h.apV j (hjK j hj hjk)
  · intro j hj q hq
    by_cases hjk : j = K
    · simp only [if_pos hjk] at hq
      cases hq
    · simp only [if_neg hjk] at hq
      intro e
      injection e with e
      have e' : g = q := e
      exact (hVg j (hjK j hj hjk) q hq).1 e'.symm
  · intro i j hi hj hij q hq
    by_cases hik : i = K
    · simp only [if_pos hik] at hq
      cases hq
    · simp only [if_neg hik] at hq
      by_cases hjk : j = K
      · simp only [if_pos hjk]
        intro e; cases e
      · simp only [if_neg hjk]
        exact h.apR i j (hjK i hi hik) (hjK j hj hjk) hij q hq
end Go.Proofs.YtaocbkloafhmeaaDoor
namespace Go.Proofs.YtaocbkloafhmeaaDoor
open Go.RowKit
def set8 (w : World) (z : Nat) (c0 c1 c2 c3 c4 c5 c6 c7 : Value) : World := ((((((((w.setCell ⟨z, 0, none⟩ c0).setCell ⟨z, 1, none⟩ c1).setCell ⟨z, 2, none⟩ c2).setCell ⟨z, 3, none⟩ c3).setCell ⟨z, 4, none⟩ c4).setCell ⟨z, 5, none⟩ c5).setCell ⟨z, 6, none⟩ c6).setCell ⟨z, 7, none⟩ c7)
theorem set8_block (w : World) (z : Nat) (c0 c1 c2 c3 c4 c5 c6 c7 : Value) (k : Nat) (h : k ≠ z) : (set8 w z c0 c1 c2 c3 c4 c5 c6 c7).heap[k]? = w.heap[k]? := by
  unfold set8
  rw [Below.heap_setCell _ _ _ k h, Below.heap_setCell _ _ _ k h, Below.heap_setCell _ _ _ k h, Below.heap_setCell _ _ _ k h, Below.heap_setCell _ _ _ k h, Below.heap_setCell _ _ _ k h, Below.heap_setCell _ _ _ k h, Below.heap_setCell _ _ _ k h]
theorem set8_size (w : World) (z : Nat) (c0 c1 c2 c3 c4 c5 c6 c7 : Value) : (set8 w z c0 c1 c2 c3 c4 c5 c6 c7).heap.size = w.heap.size := by unfold set8; simp
theorem set8_below {B : Nat} {a w : World} (hb : Below B a w) (z : Nat) (hz : B ≤ z) (c0 c1 c2 c3 c4 c5 c6 c7 : Value) : Below B a (set8 w z c0 c1 c2 c3 c4 c5 c6 c7) := ((((((((hb.setCell (p := ⟨z, 0, none⟩) hz c0).setCell (p := ⟨z, 1, none⟩) hz c1).setCell (p := ⟨z, 2, none⟩) hz c2).setCell (p := ⟨z, 3, none⟩) hz c3).setCell (p := ⟨z, 4, none⟩) hz c4).setCell (p := ⟨z, 5, none⟩) hz c5).setCell (p := ⟨z, 6, none⟩) hz c6).setCell (p := ⟨z, 7, none⟩) hz c7)
theorem set8_row {w : World} {z : Nat} {t : TypeId} {fr : Nat × Nat} {a0 a1 a2 a3 a4 a5 a6 a7 : Value} (h : w.heap[z]? = some (.cells #[a0, a1, a2, a3, a4, a5, a6, a7] t fr)) (c0 c1 c2 c3 c4 c5 c6 c7 : Value) : (set8 w z c0 c1 c2 c3 c4 c5 c6 c7).heap[z]? = some (.cells #[c0, c1, c2, c3, c4, c5, c6, c7] t fr) := by
  have h0 := row_setCell (k := 0) h c0
  simp only [List.setIfInBounds_toArray, List.set_cons_zero] at h0
  have h1 := row_setCell (k := 1) h0 c1
  simp only [List.setIfInBounds_toArray, List.set_cons_zero, List.set_cons_succ] at h1
  have h2 := row_setCell (k := 2) h1 c2
  simp only [List.setIfInBounds_toArray, List.set_cons_zero, List.set_cons_succ] at h2
  have h3 := row_setCell (k := 3) h2 c3
  simp only [List.setIfInBounds_toArray, List.set_cons_zero, List.set_cons_succ] at h3
  have h4 := row_setCell (k := 4) h3 c4
  simp only [List.setIfInBounds_toArray, List.set_cons_zero, List.set_cons_succ] at h4
  have h5 := row_setCell (k := 5) h4 c5
  simp only [List.setIfInBounds_toArray, List.set_cons_zero, List.set_cons_succ] at h5
  have h6 := row_setCell (k := 6) h5 c6
  simp only [List.setIfInBounds_toArray, List.set_cons_zero, List.set_cons_succ] at h6
  have h7 := row_setCell (k := 7) h6 c7
  simp only [List.setIfInBounds_toArray, List.set_cons_zero, List.set_cons_succ] at h7
  exact h7
def set4 (w : World) (z : Nat) (c0 c1 c2 c3 : Value) : World := ((((w.setCell ⟨z, 0, none⟩ c0).setCell ⟨z, 1, none⟩ c1).setCell ⟨z, 2, none⟩ c2).setCell ⟨z, 3, none⟩ c3)
theorem set4_block (w : World) (z : Nat) (c0 c1 c2 c3 : Value) (k : Nat) (h : k ≠ z) : (set4 w z c0 c1 c2 c3).heap[k]? = w.heap[k]? := by
  unfold set4
  rw [Below.heap_setCell _ _ _ k h, Below.heap_setCell _ _ _ k h, Below.heap_setCell _ _ _ k h, Below.heap_setCell _ _ _ k h]
theorem set4_size (w : World) (z : Nat) (c0 c1 c2 c3 : Value) : (set4 w z c0 c1 c2 c3).heap.size = w.heap.size := by unfold set4; simp
theorem set4_below {B : Nat} {a w : World} (hb : Below B a w) (z : Nat) (hz : B ≤ z) (c0 c1 c2 c3 : Value) : Below B a (set4 w z c0 c1 c2 c3) := ((((hb.setCell (p := ⟨z, 0, none⟩) hz c0).setCell (p := ⟨z, 1, none⟩) hz c1).setCell (p := ⟨z, 2, none⟩) hz c2).setCell (p := ⟨z, 3, none⟩) hz c3)
theorem set4_row {w : World} {z : Nat} {t : TypeId} {fr : Nat × Nat} {a0 a1 a2 a3 : Value} (h : w.heap[z]? = some (.cells #[a0, a1, a2, a3] t fr)) (c0 c1 c2 c3 : Value) : (set4 w z c0 c1 c2 c3).heap[z]? = some (.cells #[c0, c1, c2, c3] t fr) := by
  have h0 := row_setCell (k := 0) h c0
  simp only [List.setIfInBounds_toArray, List.set_cons_zero] at h0
  have h1 := row_setCell (k := 1) h0 c1
  simp only [List.setIfInBounds_toArray, List.set_cons_zero, List.set_cons_succ] at h1
  have h2 := row_setCell (k := 2) h1 c2
  simp only [List.setIfInBounds_toArray, List.set_cons_zero, List.set_cons_succ] at h2
  have h3 := row_setCell (k := 3) h2 c3
  simp only [List.setIfInBounds_toArray, List.set_cons_zero, List.set_cons_succ] at h3
  exact h3
theorem two_new (w : World) (o p : Obj) : ((w.alloc o).alloc p).heap[w.heap.size + 1]? = some p := by
  have := heap_alloc_new (w.alloc o) p
  rw [World.size_alloc] at this
  exact this
end Go.Proofs.YtaocbkloafhmeaaDoor
namespace Go.Proofs.YtaocbkloafhmeaaDoor
open Go.RowKit
def rowL (f : Nat → ByteArray) (k N : Nat) : List ByteArray := (List.range (N / 2 ^ k)).map (fun i => rootR f (i * 2 ^ k) (2 ^ k))
theorem rowL_len (f : Nat → ByteArray) (k N : Nat) : (rowL f k N).length = N / 2 ^ k := by simp [rowL]
theorem rowL_get (f : Nat → ByteArray) (k N i : Nat) (h : i < N / 2 ^ k) : (rowL f k N)[i]? = some (rootR f (i * 2 ^ k) (2 ^ k)) := by simp [rowL, h]
def addF (f : Nat → ByteArray) (N : Nat) (x : ByteArray) : Nat → ByteArray := fun i => if i = N then x else f i
theorem addF_old (f : Nat → ByteArray) (N : Nat) (x : ByteArray) {i : Nat} (h : i < N) : addF f N x i = f i := if_neg (by omega)
theorem addF_new (f : Nat → ByteArray) (N : Nat) (x : ByteArray) : addF f N x N = x := if_pos rfl
theorem part_le {i k N : Nat} (h : i < N / 2 ^ k) : i * 2 ^ k + 2 ^ k ≤ N := by
  have h1 : (i + 1) * 2 ^ k ≤ N / 2 ^ k * 2 ^ k := Nat.mul_le_mul_right _ h
  have h2 := Nat.div_mul_le_self N (2 ^ k)
  rw [Nat.add_mul, Nat.one_mul] at h1
  omega
theorem rowL_congr {f g : Nat → ByteArray} {k N : Nat} (h : ∀ i, i < N → f i = g i) : rowL f k N = rowL g k N := by
  unfold rowL
  apply List.map_congr_left
  intro i hi
  have := part_le (List.mem_range.1 hi)
  exact rootR_congr f g _ _ (fun j _ h2 => h j (by omega))
theorem rowL_same (f : Nat → ByteArray) (N : Nat) (x : ByteArray) (k : Nat) (h : ¬ 2 ^ k ∣ N + 1) : rowL (addF f N x) k (N + 1) = rowL f k N := by
  have e : (N + 1) / 2 ^ k = N / 2 ^ k := by rw [Nat.succ_div, if_neg h]; omega
  have e2 : rowL (addF f N x) k (N + 1) = rowL (addF f N x) k N := by unfold rowL; rw [e]
  rw [e2]
  exact rowL_congr (fun i hi => addF_old f N x hi)
theorem div_up {N k : Nat} (h : 2 ^ k ∣ N + 1) : (N + 1) / 2 ^ k = N / 2 ^ k + 1 := by rw [Nat.succ_div, if_pos h]
theorem mul_up {N k : Nat} (h : 2 ^ k ∣ N + 1) : N / 2 ^ k * 2 ^ k = N + 1 - 2 ^ k := by
  have h1 := Nat.div_mul_cancel h
  rw [div_up h, Nat.add_mul, Nat.one_mul] at h1
  omega
theorem rowL_up (f : Nat → ByteArray) (N : Nat) (x : ByteArray) (k : Nat) (h : 2 ^ k ∣ N + 1) : rowL (addF f N x) k (N + 1) = rowL f k N ++ [rootR (addF f N x) (N + 1 - 2 ^ k) (2 ^ k)] := by
  have e2 : rowL (addF f N x) k (N + 1) = rowL (addF f N x) k N ++ [rootR (addF f N x) (N / 2 ^ k * 2 ^ k) (2 ^ k)] := by
    unfold rowL
    rw [div_up h, List.range_succ, List.map_append]
    rfl
  rw [e2, mul_up h]
  congr 1
  exact rowL_congr (fun i hi => addF_old f N x hi)
theorem dvd_next {N k : Nat} (h : 2 ^ k ∣ N + 1) : 2 ^ (k + 1) ∣ N + 1 ↔ (N + 1) / 2 ^ k % 2 = 0 := by
  obtain ⟨q, hq⟩ := h
  have hp := Nat.two_pow_pos k
  rw [hq, Nat.mul_div_cancel_left _ hp, Nat.pow_succ]
  constructor
  · intro h
    have := Nat.dvd_of_mul_dvd_mul_left hp h
    omega
  · intro h
    exact Nat.mul_dvd_mul_left _ (by omega)
theorem not_dvd_above {N k j : Nat} (h : ¬ 2 ^ (k + 1) ∣ N + 1) (hj : k < j) : ¬ 2 ^ j ∣ N + 1 := fun hd => h (Nat.dvd_trans (Nat.pow_dvd_pow 2 hj) hd)
/- Rows below k are those with the new leaf, the others those without it. -/
def midL (f : Nat → ByteArray) (N : Nat) (x : ByteArray) (k j : Nat) : List ByteArray := if j < k then rowL (addF f N x) j (N + 1) else rowL f j N
theorem midL_len (f : Nat → ByteArray) (N : Nat) (x : ByteArray) (k : Nat) : (midL f N x k k).length = N / 2 ^ k := by
  unfold midL; rw [if_neg (by omega), rowL_len]
theorem midL_at (f : Nat → ByteArray) (N : Nat) (x : ByteArray) (k : Nat) : midL f N x k k = rowL f k N := if_neg (by omega)
theorem midL_next (f : Nat → ByteArray) (N : Nat) (x : ByteArray) (k j : Nat) (h : 2 ^ k ∣ N + 1) : midL f N x (k + 1) j = if j = k then midL f N x k k ++ [rootR (addF f N x) (N + 1 - 2 ^ k) (2 ^ k)] else midL f N x k j := by
  by_cases hj : j = k
  · subst hj
    rw [if_pos rfl, midL_at, ← rowL_up f N x j h]
    exact if_pos (by omega)
  · rw [if_neg hj]
    unfold midL
    by_cases hlt : j < k
    · rw [if_pos (by omega), if_pos hlt]
    · rw [if_neg (by omega), if_neg hlt]
theorem midL_end (f : Nat → ByteArray) (N : Nat) (x : ByteArray) (k j : Nat) (h : ¬ 2 ^ (k + 1) ∣ N + 1) : midL f N x (k + 1) j = rowL (addF f N x) j (N + 1) := by
  unfold midL
  split
  · rfl
  · rw [rowL_same f N x j (not_dvd_above h (by omega))]
structure Tre (w : World) (S : Nat → Prop) (b N : Nat) (f : Nat → ByteArray) : Prop where
  ex : ∃ pv K V, Fst w S b pv K V (fun k => rowL f k N) ∧ ∀ j, j < K ↔ 2 ^ j ≤ N
  low : ∀ j, S j → 3 ≤ j
  hi : ∀ j, S j → j < w.heap.size
  sz : ∀ i, i < N → (f i).size = 32
theorem Tre.kept {w w' : World} {S : Nat → Prop} {b N : Nat} {f : Nat → ByteArray} (h : Tre w S b N f) (hs : w.heap.size ≤ w'.heap.size) (hk : ∀ g, S g → w'.heap[g]? = w.heap[g]?) : Tre w' S b N f := by
  obtain ⟨pv, K, V, h1, h2⟩ := h.ex
  exact ⟨⟨pv, K, V, h1.kept hk, h2⟩, h.low, fun j hj => Nat.lt_of_lt_of_le (h.hi j hj) hs, h.sz⟩
theorem Tre.later {w w' : World} {S : Nat → Prop} {b N : Nat} {f : Nat → ByteArray} (h : Tre w S b N f) (hb : Below w.heap.size w w') : Tre w' S b N f :=
  h.kept hb.size (fun g hg => hb.block g (h.hi g hg))
theorem Tre.congr {w : World} {S : Nat → Prop} {b N : Nat} {f g : Nat → ByteArray} (h : Tre w S b N f) (hf : ∀ i, i < N → f i = g i) : Tre w S b N g := by
  obtain ⟨pv, K, V, h1, h2⟩ := h.ex
  exact ⟨⟨pv, K, V, h1.congr (fun k _ => (rowL_congr hf).symm), h2⟩, h.low, h.hi, fun i hi => by rw [← hf i hi]; exact h.sz i hi⟩
/- What may change: blocks with S alone; new ones come. -/
structure Chg (S : Nat → Prop) (w w' : World) : Prop where
  os : w'.os = w.os
  tape : w'.tape = w.tape
  output : w'.output = w.output
  size : w.heap.size ≤ w'.heap.size
  block : ∀ k, k < w.heap.size → ¬ S k → w'.heap[k]? = w.heap[k]?
theorem Chg.refl (S : Nat → Prop) (w : World) : Chg S w w := ⟨rfl, rfl, rfl, Nat.le_refl _, fun _ _ _ => rfl⟩
theorem Chg.of_below {S : Nat → Prop} {w w' : World} (h : Below w.heap.size w w') : Chg S w w' := ⟨h.os, h.tape, h.output, h.size, fun k hk _ => h.block k hk⟩
theorem Chg.below {S : Nat → Prop} {w w' : World} (h : Chg S w w') {B : Nat} (hB : B ≤ w.heap.size) (hS : ∀ j, S j → B ≤ j) : Below B w w' :=
  ⟨h.os, h.tape, h.output, h.size, fun k hk => h.block k (by omega) (fun hs => by have := hS k hs; omega)⟩
theorem GL.block {w w' : World} (h : GL w) (hb : w'.heap[0]? = w.heap[0]?) : GL w' := fun i hi => (World.cell?_of_block (a := ⟨0, i, none⟩) hb).trans (h i hi)
theorem GL.lt {w : World} (h : GL w) : 0 < w.heap.size := by
  have := World.block_lt_of_cell? w ⟨0, 0, none⟩ (h 0 (by omega))
  exact this
theorem GL.chg {S : Nat → Prop} {w w' : World} (h : GL w) (hC : Chg S w w') (hS : ∀ j, S j → 3 ≤ j) : GL w' :=
  h.block (hC.block 0 h.lt (fun hs => by have := hS 0 hs; omega))
theorem rootF_size (f : Nat → ByteArray) : ∀ F o n, (∀ i, o ≤ i → i < o + n → (f i).size = 32) → (rootF f F o n).size = 32
  | 0, _, _, _ => sumS_size _
  | F + 1, o, n, hf => by
    simp only [rootF]
    split
    · exact sumS_size _
    · split
      · exact hf o (by omega) (by omega)
      · exact sumS_size _
theorem rootR_size (f : Nat → ByteArray) (o n : Nat) (hf : ∀ i, o ≤ i → i < o + n → (f i).size = 32) : (rootR f o n).size = 32 := rootF_size f n o n hf
end Go.Proofs.YtaocbkloafhmeaaDoor
