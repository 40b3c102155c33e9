/- The tree of RFC 6962 as plain functions: halves, roots, what shows a leaf, what shows growth; whether a way shows them, from the top (the program) and from the bottom (the document): each other's. -/
import Derived.Test.YtjamahpccblkiabDoorLeaves
namespace Go.Proofs.YtjamahpccblkiabDoor
def nodeS (a b : ByteArray) : ByteArray := sumS (nodeT a b)
def noneS : ByteArray := sumS ⟨#[]⟩
def half (n : Nat) : Nat := 2 ^ Nat.log2 (n - 1)
theorem half_pos (n : Nat) : 0 < half n := Nat.two_pow_pos _
theorem half_lt {n : Nat} (h : 2 ≤ n) : half n < n := by
  unfold half
  have := Nat.log2_self_le (n := n - 1) (by omega)
  omega
theorem half_twice {n : Nat} (h : 2 ≤ n) : n ≤ 2 * half n := by
  unfold half
  have := Nat.lt_log2_self (n := n - 1)
  rw [Nat.pow_succ] at this
  omega
theorem half_unique {n k : Nat} (h1 : 2 ^ k < n) (h2 : n ≤ 2 * 2 ^ k) : half n = 2 ^ k := by
  unfold half
  congr 1
  have h0 : n - 1 ≠ 0 := by have := Nat.two_pow_pos k; omega
  have a : k ≤ Nat.log2 (n - 1) := (Nat.le_log2 h0).2 (by omega)
  have b : Nat.log2 (n - 1) < k + 1 := (Nat.log2_lt h0).2 (by rw [Nat.pow_succ]; omega)
  omega
def rootF (f : Nat → ByteArray) : Nat → Nat → Nat → ByteArray
  | 0, _, _ => noneS
  | F + 1, o, n => if n = 0 then noneS else if n = 1 then f o else nodeS (rootF f F o (half n)) (rootF f F (o + half n) (n - half n))
theorem rootF_fuel (f : Nat → ByteArray) : ∀ F G o n, n ≤ F → n ≤ G → rootF f F o n = rootF f G o n
  | 0, 0, _, _, _, _ => rfl
  | 0, G + 1, o, n, h1, _ => by
    obtain rfl : n = 0 := by omega
    rfl
  | F + 1, 0, o, n, _, h2 => by
    obtain rfl : n = 0 := by omega
    rfl
  | F + 1, G + 1, o, n, h1, h2 => by
    by_cases h : 2 ≤ n
    · have a := half_lt h
      have b := half_pos n
      simp only [rootF]
      rw [if_neg (by omega), if_neg (by omega), if_neg (by omega), if_neg (by omega), rootF_fuel f F G o (half n) (by omega) (by omega), rootF_fuel f F G (o + half n) (n - half n) (by omega) (by omega)]
    · simp only [rootF]
      by_cases h0 : n = 0
      · rw [if_pos h0, if_pos h0]
      · rw [if_neg h0, if_neg h0, if_pos (by omega), if_pos (by omega)]
def rootR (f : Nat → ByteArray) (o n : Nat) : ByteArray := rootF f n o n
theorem rootR_zero (f : Nat → ByteArray) (o : Nat) : rootR f o 0 = noneS := rfl
theorem rootR_one (f : Nat → ByteArray) (o : Nat) : rootR f o 1 = f o := rfl
theorem rootR_two (f : Nat → ByteArray) (o : Nat) {n : Nat} (h : 2 ≤ n) : rootR f o n = nodeS (rootR f o (half n)) (rootR f (o + half n) (n - half n)) := by
  have a := half_lt h
  have b := half_pos n
  obtain ⟨k, rfl⟩ : ∃ k, n = k + 1 := ⟨n - 1, by omega⟩
  unfold rootR
  rw [rootF_fuel f (half (k + 1)) k o (half (k + 1)) (by omega) (by omega), rootF_fuel f (k + 1 - half (k + 1)) k (o + half (k + 1)) (k + 1 - half (k + 1)) (by omega) (by omega)]
  show (if k + 1 = 0 then noneS else if k + 1 = 1 then f o else _) = _
  rw [if_neg (by omega), if_neg (by omega)]
theorem rootF_congr (f g : Nat → ByteArray) : ∀ F o n, n ≤ F → (∀ i, o ≤ i → i < o + n → f i = g i) → rootF f F o n = rootF g F o n
  | 0, _, _, _, _ => rfl
  | F + 1, o, n, h, hf => by
    simp only [rootF]
    by_cases h0 : n = 0
    · rw [if_pos h0, if_pos h0]
    · rw [if_neg h0, if_neg h0]
      by_cases h1 : n = 1
      · rw [if_pos h1, if_pos h1]; exact hf o (by omega) (by omega)
      · rw [if_neg h1, if_neg h1]
        have a := half_lt (n := n) (by omega)
        have b := half_pos n
        rw [rootF_congr f g F o (half n) (by omega) (fun i h1 h2 => hf i h1 (by omega)), rootF_congr f g F (o + half n) (n - half n) (by omega) (fun i h1 h2 => hf i (by omega) (by omega))]
theorem rootR_congr (f g : Nat → ByteArray) (o n : Nat) (hf : ∀ i, o ≤ i → i < o + n → f i = g i) : rootR f o n = rootR g o n :=
  rootF_congr f g n o n (Nat.le_refl _) hf
theorem half_pow (k : Nat) : half (2 ^ (k + 1)) = 2 ^ k := half_unique (by rw [Nat.pow_succ]; have := Nat.two_pow_pos k; omega) (by rw [Nat.pow_succ]; omega)
theorem rootR_pow (f : Nat → ByteArray) (o k : Nat) : rootR f o (2 ^ (k + 1)) = nodeS (rootR f o (2 ^ k)) (rootR f (o + 2 ^ k) (2 ^ k)) := by
  have := Nat.two_pow_pos k
  rw [rootR_two f o (by rw [Nat.pow_succ]; omega), half_pow, show 2 ^ (k + 1) - 2 ^ k = 2 ^ k by rw [Nat.pow_succ]; omega]
def pathF (f : Nat → ByteArray) : Nat → Nat → Nat → Nat → List ByteArray
  | 0, _, _, _ => []
  | F + 1, m, o, n => if n ≤ 1 then [] else if m < half n then pathF f F m o (half n) ++ [rootR f (o + half n) (n - half n)] else pathF f F (m - half n) (o + half n) (n - half n) ++ [rootR f o (half n)]
theorem pathF_fuel (f : Nat → ByteArray) : ∀ F G m o n, n ≤ F → n ≤ G → pathF f F m o n = pathF f G m o n
  | 0, 0, _, _, _, _, _ => rfl
  | 0, G + 1, m, o, n, h1, _ => by
    obtain rfl : n = 0 := by omega
    rfl
  | F + 1, 0, m, o, n, _, h2 => by
    obtain rfl : n = 0 := by omega
    rfl
  | F + 1, G + 1, m, o, n, h1, h2 => by
    simp only [pathF]
    by_cases h : n ≤ 1
    · rw [if_pos h, if_pos h]
    · have a := half_lt (n := n) (by omega)
      have b := half_pos n
      rw [if_neg h, if_neg h, pathF_fuel f F G m o (half n) (by omega) (by omega), pathF_fuel f F G (m - half n) (o + half n) (n - half n) (by omega) (by omega)]
def pathR (f : Nat → ByteArray) (m o n : Nat) : List ByteArray := pathF f n m o n
theorem pathR_one (f : Nat → ByteArray) (m o : Nat) : pathR f m o 1 = [] := rfl
theorem pathR_step (f : Nat → ByteArray) (m o : Nat) {n : Nat} (h : 2 ≤ n) : pathR f m o n = if m < half n then pathR f m o (half n) ++ [rootR f (o + half n) (n - half n)] else pathR f (m - half n) (o + half n) (n - half n) ++ [rootR f o (half n)] := by
  have a := half_lt h
  have b := half_pos n
  obtain ⟨k, rfl⟩ : ∃ k, n = k + 1 := ⟨n - 1, by omega⟩
  unfold pathR
  rw [pathF_fuel f (half (k + 1)) k m o (half (k + 1)) (by omega) (by omega), pathF_fuel f (k + 1 - half (k + 1)) k (m - half (k + 1)) (o + half (k + 1)) (k + 1 - half (k + 1)) (by omega) (by omega)]
  show (if k + 1 ≤ 1 then [] else _) = _
  rw [if_neg (by omega)]
theorem pathR_left (f : Nat → ByteArray) (m o : Nat) {n : Nat} (h : 2 ≤ n) (hm : m < half n) : pathR f m o n = pathR f m o (half n) ++ [rootR f (o + half n) (n - half n)] := by
  rw [pathR_step f m o h, if_pos hm]
theorem pathR_right (f : Nat → ByteArray) (m o : Nat) {n : Nat} (h : 2 ≤ n) (hm : ¬ m < half n) : pathR f m o n = pathR f (m - half n) (o + half n) (n - half n) ++ [rootR f o (half n)] := by
  rw [pathR_step f m o h, if_neg hm]
def grownF (f : Nat → ByteArray) : Nat → Nat → Nat → Nat → Bool → List ByteArray
  | 0, _, _, _, _ => []
  | F + 1, m, o, n, kn => if m = n then (if kn = true then [] else [rootR f o n]) else if m ≤ half n then grownF f F m o (half n) kn ++ [rootR f (o + half n) (n - half n)] else grownF f F (m - half n) (o + half n) (n - half n) false ++ [rootR f o (half n)]
theorem grownF_fuel (f : Nat → ByteArray) : ∀ F G m o n kn, 1 ≤ m → m ≤ n → n ≤ F → n ≤ G → grownF f F m o n kn = grownF f G m o n kn
  | 0, 0, _, _, _, _, _, _, _, _ => rfl
  | 0, G + 1, m, o, n, _, _, _, h1, _ => by omega
  | F + 1, 0, m, o, n, _, _, _, _, h2 => by omega
  | F + 1, G + 1, m, o, n, kn, h1, h2, h3, h4 => by
    simp only [grownF]
    by_cases h : m = n
    · rw [if_pos h, if_pos h]
    · have a := half_lt (n := n) (by omega)
      have b := half_pos n
      rw [if_neg h, if_neg h]
      by_cases hh : m ≤ half n
      · rw [if_pos hh, if_pos hh, grownF_fuel f F G m o (half n) kn h1 hh (by omega) (by omega)]
      · rw [if_neg hh, if_neg hh, grownF_fuel f F G (m - half n) (o + half n) (n - half n) false (by omega) (by omega) (by omega) (by omega)]
def grownR (f : Nat → ByteArray) (m o n : Nat) (kn : Bool) : List ByteArray := grownF f n m o n kn
theorem grownR_all (f : Nat → ByteArray) (o : Nat) {n : Nat} (h : 1 ≤ n) : grownR f n o n true = [] := by
  obtain ⟨k, rfl⟩ : ∃ k, n = k + 1 := ⟨n - 1, by omega⟩
  show (if k + 1 = k + 1 then (if true = true then [] else _) else _) = _
  rw [if_pos rfl, if_pos rfl]
theorem grownR_one (f : Nat → ByteArray) (o : Nat) {n : Nat} (h : 1 ≤ n) : grownR f n o n false = [rootR f o n] := by
  obtain ⟨k, rfl⟩ : ∃ k, n = k + 1 := ⟨n - 1, by omega⟩
  show (if k + 1 = k + 1 then (if false = true then [] else _) else _) = _
  rw [if_pos rfl, if_neg (by decide)]
theorem grownR_left (f : Nat → ByteArray) (m o : Nat) {n : Nat} (kn : Bool) (h1 : 1 ≤ m) (hm : m < n) (hh : m ≤ half n) : grownR f m o n kn = grownR f m o (half n) kn ++ [rootR f (o + half n) (n - half n)] := by
  have a := half_lt (n := n) (by omega)
  have b := half_pos n
  obtain ⟨k, rfl⟩ : ∃ k, n = k + 1 := ⟨n - 1, by omega⟩
  unfold grownR
  rw [grownF_fuel f (half (k + 1)) k m o (half (k + 1)) kn h1 hh (by omega) (by omega)]
  show (if m = k + 1 then _ else _) = _
  rw [if_neg (by omega), if_pos hh]
theorem grownR_right (f : Nat → ByteArray) (m o : Nat) {n : Nat} (kn : Bool) (h1 : 1 ≤ m) (hm : m < n) (hh : ¬ m ≤ half n) : grownR f m o n kn = grownR f (m - half n) (o + half n) (n - half n) false ++ [rootR f o (half n)] := by
  have a := half_lt (n := n) (by omega)
  have b := half_pos n
  obtain ⟨k, rfl⟩ : ∃ k, n = k + 1 := ⟨n - 1, by omega⟩
  unfold grownR
  rw [grownF_fuel f (k + 1 - half (k + 1)) k (m - half (k + 1)) (o + half (k + 1)) (k + 1 - half (k + 1)) false (by omega) (by omega) (by omega) (by omega)]
  show (if m = k + 1 then _ else _) = _
  rw [if_neg (by omega), if_neg hh]
def rb (leaf : ByteArray) : Nat → Nat → List ByteArray → ByteArray × Bool
  | _, n, [] => if n = 1 then (leaf, true) else (⟨#[]⟩, false)
  | m, n, top :: rest =>
    if n = 1 then (leaf, false) else if top.size = 32 then
      (if m < half n then (nodeS (rb leaf m (half n) rest).1 top, (rb leaf m (half n) rest).2) else (nodeS top (rb leaf (m - half n) (n - half n) rest).1, (rb leaf (m - half n) (n - half n) rest).2))
    else (⟨#[]⟩, false)
def rbs (old : ByteArray) : Nat → Nat → Bool → List ByteArray → ByteArray × ByteArray × Bool
  | m, n, kn, [] => if m = n ∧ kn = true then (old, old, true) else (⟨#[]⟩, ⟨#[]⟩, false)
  | m, n, kn, top :: rest =>
    if m = n ∧ kn = true then (old, old, false) else if top.size = 32 then
      (if m = n then (top, top, rest.length == 0) else if m ≤ half n then ((rbs old m (half n) kn rest).1, nodeS (rbs old m (half n) kn rest).2.1 top, (rbs old m (half n) kn rest).2.2) else (nodeS top (rbs old (m - half n) (n - half n) false rest).1, nodeS top (rbs old (m - half n) (n - half n) false rest).2.1, (rbs old (m - half n) (n - half n) false rest).2.2))
    else (⟨#[]⟩, ⟨#[]⟩, false)
def up : ByteArray → List ByteArray → List Bool → Option ByteArray
  | h, [], [] => some h
  | h, x :: xs, t :: ts => if x.size = 32 then up (if t = true then nodeS x h else nodeS h x) xs ts else none
  | _, _, _ => none
theorem up_snoc : ∀ (xs : List ByteArray) (ts : List Bool) (h x : ByteArray) (t : Bool), up h (xs ++ [x]) (ts ++ [t]) = (up h xs ts).bind (fun r => if x.size = 32 then some (if t = true then nodeS x r else nodeS r x) else none)
  | [], [], h, x, t => by
    show (if x.size = 32 then up _ [] [] else none) = _
    rfl
  | [], s :: ts, h, x, t => by
    show (if x.size = 32 then up _ [] (ts ++ [t]) else none) = none
    split
    · cases ts <;> rfl
    · rfl
  | y :: xs, [], h, x, t => by
    show (if y.size = 32 then up _ (xs ++ [x]) [] else none) = none
    split
    · cases xs <;> rfl
    · rfl
  | y :: xs, s :: ts, h, x, t => by
    show (if y.size = 32 then up _ (xs ++ [x]) (ts ++ [t]) else none) = (if y.size = 32 then up _ xs ts else none).bind _
    split
    · exact up_snoc xs ts _ x t
    · rfl
def turnsF : Nat → Nat → Nat → List Bool
  | 0, _, _ => []
  | F + 1, m, n => if n ≤ 1 then [] else if m < half n then false :: turnsF F m (half n) else true :: turnsF F (m - half n) (n - half n)
theorem turnsF_fuel : ∀ F G m n, n ≤ F → n ≤ G → turnsF F m n = turnsF G m n
  | 0, 0, _, _, _, _ => rfl
  | 0, G + 1, m, n, h1, _ => by
    obtain rfl : n = 0 := by omega
    rfl
  | F + 1, 0, m, n, _, h2 => by
    obtain rfl : n = 0 := by omega
    rfl
  | F + 1, G + 1, m, n, h1, h2 => by
    simp only [turnsF]
    by_cases h : n ≤ 1
    · rw [if_pos h, if_pos h]
    · have a := half_lt (n := n) (by omega)
      have b := half_pos n
      rw [if_neg h, if_neg h, turnsF_fuel F G m (half n) (by omega) (by omega), turnsF_fuel F G (m - half n) (n - half n) (by omega) (by omega)]
def turns (m n : Nat) : List Bool := turnsF n m n
theorem turns_one (m : Nat) {n : Nat} (h : n ≤ 1) : turns m n = [] := by
  rcases (by omega : n = 0 ∨ n = 1) with rfl | rfl <;> rfl
theorem turns_left (m : Nat) {n : Nat} (h : 2 ≤ n) (hm : m < half n) : turns m n = false :: turns m (half n) := by
  have a := half_lt h
  obtain ⟨k, rfl⟩ : ∃ k, n = k + 1 := ⟨n - 1, by omega⟩
  unfold turns
  rw [turnsF_fuel (half (k + 1)) k m (half (k + 1)) (by omega) (by omega)]
  show (if k + 1 ≤ 1 then [] else _) = _
  rw [if_neg (by omega), if_pos hm]
theorem turns_right (m : Nat) {n : Nat} (h : 2 ≤ n) (hm : ¬ m < half n) : turns m n = true :: turns (m - half n) (n - half n) := by
  have a := half_lt h
  have b := half_pos n
  obtain ⟨k, rfl⟩ : ∃ k, n = k + 1 := ⟨n - 1, by omega⟩
  unfold turns
  rw [turnsF_fuel (k + 1 - half (k + 1)) k (m - half (k + 1)) (k + 1 - half (k + 1)) (by omega) (by omega)]
  show (if k + 1 ≤ 1 then [] else _) = _
  rw [if_neg (by omega), if_neg hm]
def okv (p : ByteArray × Bool) : Option ByteArray := if p.2 = true then some p.1 else none
theorem up_rb (leaf : ByteArray) : ∀ (r : List ByteArray) (m n : Nat), 1 ≤ n → up leaf r.reverse (turns m n).reverse = okv (rb leaf m n r)
  | [], m, n, hn => by
    simp only [rb]
    by_cases h : n = 1
    · subst h
      rw [turns_one m (Nat.le_refl _)]
      rfl
    · rw [if_neg h]
      by_cases hm : m < half n
      · rw [turns_left m (by omega) hm, List.reverse_cons]
        show up leaf [] _ = none
        cases (turns m (half n)).reverse <;> rfl
      · rw [turns_right m (by omega) hm, List.reverse_cons]
        show up leaf [] _ = none
        cases (turns (m - half n) (n - half n)).reverse <;> rfl
  | x :: r, m, n, hn => by
    rw [List.reverse_cons]
    simp only [rb]
    by_cases h : n = 1
    · subst h
      rw [turns_one m (Nat.le_refl _), if_pos rfl]
      show up leaf (r.reverse ++ [x]) [] = none
      cases r.reverse <;> rfl
    · rw [if_neg h]
      have a := half_lt (n := n) (by omega)
      have b := half_pos n
      by_cases hm : m < half n
      · rw [turns_left m (by omega) hm, List.reverse_cons, up_snoc, up_rb leaf r m (half n) b, if_pos hm]
        by_cases hx : x.size = 32
        · rw [if_pos hx]
          by_cases ho : (rb leaf m (half n) r).2 = true
          · simp [okv, ho, hx]
          · simp [okv, ho]
        · rw [if_neg hx]
          cases okv (rb leaf m (half n) r) <;> simp [okv, hx]
      · rw [turns_right m (by omega) hm, List.reverse_cons, up_snoc, up_rb leaf r (m - half n) (n - half n) (by omega), if_neg hm]
        by_cases hx : x.size = 32
        · rw [if_pos hx]
          by_cases ho : (rb leaf (m - half n) (n - half n) r).2 = true
          · simp [okv, ho, hx]
          · simp [okv, ho]
        · rw [if_neg hx]
          cases okv (rb leaf (m - half n) (n - half n) r) <;> simp [okv, hx]
def up2 : ByteArray → ByteArray → List ByteArray → List Bool → Option (ByteArray × ByteArray)
  | a, b, [], [] => some (a, b)
  | a, b, x :: xs, t :: ts => if x.size = 32 then up2 (if t = true then nodeS x a else a) (if t = true then nodeS x b else nodeS b x) xs ts else none
  | _, _, _, _ => none
theorem up2_snoc : ∀ (xs : List ByteArray) (ts : List Bool) (a b x : ByteArray) (t : Bool), up2 a b (xs ++ [x]) (ts ++ [t]) = (up2 a b xs ts).bind (fun r => if x.size = 32 then some (if t = true then nodeS x r.1 else r.1, if t = true then nodeS x r.2 else nodeS r.2 x) else none)
  | [], [], a, b, x, t => by
    show (if x.size = 32 then up2 _ _ [] [] else none) = _
    rfl
  | [], s :: ts, a, b, x, t => by
    show (if x.size = 32 then up2 _ _ [] (ts ++ [t]) else none) = none
    split
    · cases ts <;> rfl
    · rfl
  | y :: xs, [], a, b, x, t => by
    show (if y.size = 32 then up2 _ _ (xs ++ [x]) [] else none) = none
    split
    · cases xs <;> rfl
    · rfl
  | y :: xs, s :: ts, a, b, x, t => by
    show (if y.size = 32 then up2 _ _ (xs ++ [x]) (ts ++ [t]) else none) = (if y.size = 32 then up2 _ _ xs ts else none).bind _
    split
    · exact up2_snoc xs ts _ _ x t
    · rfl
def gturnsF : Nat → Nat → Nat → List Bool
  | 0, _, _ => []
  | F + 1, m, n => if n ≤ m then [] else if m ≤ half n then false :: gturnsF F m (half n) else true :: gturnsF F (m - half n) (n - half n)
theorem gturnsF_fuel : ∀ F G m n, 1 ≤ m → n ≤ F → n ≤ G → gturnsF F m n = gturnsF G m n
  | 0, 0, _, _, _, _, _ => rfl
  | 0, G + 1, m, n, _, h1, _ => by
    obtain rfl : n = 0 := by omega
    show [] = (if 0 ≤ m then [] else _)
    rw [if_pos (by omega)]
  | F + 1, 0, m, n, _, _, h2 => by
    obtain rfl : n = 0 := by omega
    show (if 0 ≤ m then [] else _) = []
    rw [if_pos (by omega)]
  | F + 1, G + 1, m, n, h0, h1, h2 => by
    simp only [gturnsF]
    by_cases h : n ≤ m
    · rw [if_pos h, if_pos h]
    · have a := half_lt (n := n) (by omega)
      have b := half_pos n
      rw [if_neg h, if_neg h]
      by_cases hh : m ≤ half n
      · rw [if_pos hh, if_pos hh, gturnsF_fuel F G m (half n) h0 (by omega) (by omega)]
      · rw [if_neg hh, if_neg hh, gturnsF_fuel F G (m - half n) (n - half n) (by omega) (by omega) (by omega)]
def gturns (m n : Nat) : List Bool := gturnsF n m n
theorem gturns_all (n : Nat) : gturns n n = [] := by
  cases n with
  | zero => rfl
  | succ k =>
    show (if k + 1 ≤ k + 1 then [] else _) = []
    rw [if_pos (Nat.le_refl _)]
theorem gturns_left {m n : Nat} (h1 : 1 ≤ m) (h : m < n) (hm : m ≤ half n) : gturns m n = false :: gturns m (half n) := by
  have a := half_lt (n := n) (by omega)
  obtain ⟨k, rfl⟩ : ∃ k, n = k + 1 := ⟨n - 1, by omega⟩
  unfold gturns
  rw [gturnsF_fuel (half (k + 1)) k m (half (k + 1)) h1 (by omega) (by omega)]
  show (if k + 1 ≤ m then [] else _) = _
  rw [if_neg (by omega), if_pos hm]
theorem gturns_right {m n : Nat} (h1 : 1 ≤ m) (h : m < n) (hm : ¬ m ≤ half n) : gturns m n = true :: gturns (m - half n) (n - half n) := by
  have a := half_lt (n := n) (by omega)
  have b := half_pos n
  obtain ⟨k, rfl⟩ : ∃ k, n = k + 1 := ⟨n - 1, by omega⟩
  unfold gturns
  rw [gturnsF_fuel (k + 1 - half (k + 1)) k (m - half (k + 1)) (k + 1 - half (k + 1)) (by omega) (by omega) (by omega)]
  show (if k + 1 ≤ m then [] else _) = _
  rw [if_neg (by omega), if_neg hm]
def conS (old : ByteArray) (right : Bool) (way : List ByteArray) (ts : List Bool) : Option (ByteArray × ByteArray) :=
  if right = true then (match way with
    | [] => none
    | x :: xs => if x.size = 32 then up2 x x xs ts else none)
  else up2 old old way ts
theorem conS_snoc (old : ByteArray) (right : Bool) (ws : List ByteArray) (x : ByteArray) (ts : List Bool) (t : Bool) :
    conS old right (ws ++ [x]) (ts ++ [t]) = (conS old right ws ts).bind (fun r => if x.size = 32 then some (if t = true then nodeS x r.1 else r.1, if t = true then nodeS x r.2 else nodeS r.2 x) else none) := by
  unfold conS
  cases right with
  | false => exact up2_snoc ws ts old old x t
  | true =>
    cases ws with
    | nil =>
      show (if x.size = 32 then up2 x x [] (ts ++ [t]) else none) = none
      split
      · cases ts <;> rfl
      · rfl
    | cons y ys =>
      show (if y.size = 32 then up2 y y (ys ++ [x]) (ts ++ [t]) else none) = (if y.size = 32 then up2 y y ys ts else none).bind _
      split
      · exact up2_snoc ys ts y y x t
      · rfl
theorem conS_nil (old : ByteArray) (right : Bool) (ts : List Bool) (t : Bool) : conS old right [] (ts ++ [t]) = none := by
  unfold conS
  cases right with
  | false => cases ts <;> rfl
  | true => rfl
def okv2 (p : ByteArray × ByteArray × Bool) : Option (ByteArray × ByteArray) := if p.2.2 = true then some (p.1, p.2.1) else none
theorem up_rbs (old : ByteArray) : ∀ (r : List ByteArray) (m n : Nat) (kn : Bool), 1 ≤ m → m ≤ n →
    conS old ((!kn) || (gturns m n).any id) r.reverse (gturns m n).reverse = okv2 (rbs old m n kn r)
  | [], m, n, kn, h1, hn => by
    simp only [rbs]
    by_cases h : m = n
    · subst h
      rw [gturns_all]
      cases kn <;> simp [conS, up2, okv2]
    · rw [if_neg (fun c => h c.1)]
      by_cases hm : m ≤ half n
      · rw [gturns_left h1 (by omega) hm, List.reverse_cons, List.reverse_nil, conS_nil]
        rfl
      · rw [gturns_right h1 (by omega) hm, List.reverse_cons, List.reverse_nil, conS_nil]
        rfl
  | x :: r, m, n, kn, h1, hn => by
    rw [List.reverse_cons]
    simp only [rbs]
    by_cases h : m = n
    · subst h
      rw [gturns_all]
      cases kn with
      | true =>
        rw [if_pos ⟨rfl, rfl⟩]
        show conS old false (r.reverse ++ [x]) [] = none
        show up2 old old (r.reverse ++ [x]) [] = none
        cases r.reverse <;> rfl
      | false =>
        rw [if_neg (by simp), if_pos rfl]
        show conS old true (r.reverse ++ [x]) [] = _
        cases r with
        | nil =>
          show (if x.size = 32 then up2 x x [] [] else none) = _
          split <;> rfl
        | cons y ys =>
          rw [List.reverse_cons, List.append_assoc]
          have e2 : ∀ (l : List ByteArray), conS old true (l ++ ([y] ++ [x])) [] = none := fun l => by
            cases l with
            | nil =>
              show (if y.size = 32 then up2 y y [x] [] else none) = none
              split <;> rfl
            | cons z zs =>
              show (if z.size = 32 then up2 z z (zs ++ ([y] ++ [x])) [] else none) = none
              split
              · cases zs <;> rfl
              · rfl
          rw [e2]
          split <;> simp [okv2]
    · rw [if_neg (fun c => h c.1), if_neg h]
      have a := half_lt (n := n) (by omega)
      have b := half_pos n
      by_cases hm : m ≤ half n
      · rw [gturns_left h1 (by omega) hm, List.reverse_cons, List.any_cons, conS_snoc, if_pos hm]
        have ih := up_rbs old r m (half n) kn h1 hm
        rw [show (id false || (gturns m (half n)).any id) = (gturns m (half n)).any id from by simp, ih]
        by_cases hx : x.size = 32
        · rw [if_pos hx]
          by_cases ho : (rbs old m (half n) kn r).2.2 = true
          · simp [okv2, ho, hx]
          · simp [okv2, ho]
        · rw [if_neg hx]
          cases okv2 (rbs old m (half n) kn r) <;> simp [okv2, hx]
      · rw [gturns_right h1 (by omega) hm, List.reverse_cons, List.any_cons, conS_snoc, if_neg hm]
        have ih := up_rbs old r (m - half n) (n - half n) false (by omega) (by omega)
        rw [show ((!kn) || (id true || (gturns (m - half n) (n - half n)).any id)) = ((!false) || (gturns (m - half n) (n - half n)).any id) from by simp, ih]
        by_cases hx : x.size = 32
        · rw [if_pos hx]
          by_cases ho : (rbs old (m - half n) (n - half n) false r).2.2 = true
          · simp [okv2, ho, hx]
          · simp [okv2, ho]
        · rw [if_neg hx]
          cases okv2 (rbs old (m - half n) (n - half n) false r) <;> simp [okv2, hx]
end Go.Proofs.YtjamahpccblkiabDoor
