/- The order of texts, byte by byte: plain facts. Lists of keys with values in memory (Sl, itC), and where a key stands among them: cmp.Compare, slices.BinarySearchFunc, find, leaf; what is in a span (keys.Has). -/
import GoSem.Op.String
import Derived.Laws.Strings
import Derived.Test.YtniljoojoafiaaaGreatDoorRows
import Derived.WalkKit
import Derived.WalkSpells
import Derived.WalkLawsBesides
import Derived.Deep.QuietTactic
import Derived.BigQuiet
import Derived.Deep.RegionWith
import Derived.BigGuardPart
import Derived.Shelf.Abstract
import Derived.Deep.LoopGhost
namespace Go.Proofs.YtniljoojoafiaaaGreatDoor.B
def lt8 (x y : List UInt8) : Bool := Op.bytesLess x y
set_option maxRecDepth 100000 in
theorem lt8_nil_r (x : List UInt8) : lt8 x [] = false := by cases x <;> simp [lt8, Op.bytesLess]
set_option maxRecDepth 100000 in
theorem lt8_nil_l (c : UInt8) (y : List UInt8) : lt8 [] (c :: y) = true := by simp [lt8, Op.bytesLess]
set_option maxRecDepth 100000 in
theorem lt8_cons (a b : UInt8) (x y : List UInt8) : lt8 (a :: x) (b :: y) = (decide (a < b) || (a == b && lt8 x y)) := by simp [lt8, Op.bytesLess]
set_option maxRecDepth 100000 in
theorem u8_lt {a b : UInt8} : a < b ↔ a.toNat < b.toNat := UInt8.lt_iff_toNat_lt
set_option maxRecDepth 100000 in
theorem u8_eq {a b : UInt8} : a = b ↔ a.toNat = b.toNat := UInt8.toNat_inj.symm
set_option maxRecDepth 100000 in
theorem lt8_irrefl (x : List UInt8) : lt8 x x = false := by
  induction x with
  | nil => rfl
  | cons a x ih => rw [lt8_cons, ih]; simp
set_option maxRecDepth 100000 in
theorem lt8_trans {x y z : List UInt8} (h : lt8 x y = true) (k : lt8 y z = true) : lt8 x z = true := by
  induction x generalizing y z with
  | nil =>
    cases z with
    | nil => rw [lt8_nil_r] at k; cases k
    | cons c z => exact lt8_nil_l c z
  | cons a x ih =>
    cases y with
    | nil => rw [lt8_nil_r] at h; cases h
    | cons b y =>
      cases z with
      | nil => rw [lt8_nil_r] at k; cases k
      | cons c z =>
        rw [lt8_cons] at h k ⊢
        simp only [Bool.or_eq_true, decide_eq_true_eq, Bool.and_eq_true, beq_iff_eq] at h k ⊢
        rw [u8_lt, u8_eq] at h k ⊢
        rcases h with h | ⟨h1, h2⟩ <;> rcases k with k | ⟨k1, k2⟩
        · left; omega
        · left; omega
        · left; omega
        · right; exact ⟨by omega, ih h2 k2⟩
set_option maxRecDepth 100000 in
theorem lt8_total (x y : List UInt8) : lt8 x y = true ∨ x = y ∨ lt8 y x = true := by
  induction x generalizing y with
  | nil =>
    cases y with
    | nil => exact Or.inr (Or.inl rfl)
    | cons c y => exact Or.inl (lt8_nil_l c y)
  | cons a x ih =>
    cases y with
    | nil => exact Or.inr (Or.inr (lt8_nil_l a x))
    | cons b y =>
      rw [lt8_cons, lt8_cons]
      rcases Nat.lt_trichotomy a.toNat b.toNat with h | h | h
      · left; simp [u8_lt.2 h]
      · have e : a = b := u8_eq.2 h
        subst e
        rcases ih y with h | h | h
        · left; simp [h]
        · right; left; rw [h]
        · right; right; simp [h]
      · right; right; simp [u8_lt.2 h]
set_option maxRecDepth 100000 in
theorem lt8_asymm {x y : List UInt8} (h : lt8 x y = true) : lt8 y x = false := by
  cases k : lt8 y x with
  | false => rfl
  | true => have := lt8_trans h k; rw [lt8_irrefl] at this; cases this
set_option maxRecDepth 100000 in
theorem lt8_ne {x y : List UInt8} (h : lt8 x y = true) : x ≠ y := fun e => by rw [e, lt8_irrefl] at h; cases h
set_option maxRecDepth 100000 in
theorem toList_inj {a b : ByteArray} (h : a.toList = b.toList) : a = b := by
  have h1 : ∀ x : ByteArray, x.toList = x.data.toList := fun x => ByteArray.toList_eq x
  rw [h1, h1] at h
  cases a; cases b
  simp only at h
  congr 1
  exact Array.toList_inj.1 h
end Go.Proofs.YtniljoojoafiaaaGreatDoor.B
namespace Go.Proofs.YtniljoojoafiaaaGreatDoor.B
open Go.RowKit Go.Shelf
def ltB (x y : ByteArray) : Bool := Op.bytesLess x.toList y.toList
abbrev Im := ByteArray × ByteArray
def itC (xs : List Im) : List Value := xs.flatMap (fun x => [.string x.1, .string x.2])
set_option maxRecDepth 100000 in
theorem itC_cons (x : Im) (xs : List Im) : itC (x :: xs) = .string x.1 :: .string x.2 :: itC xs := rfl
set_option maxRecDepth 100000 in
theorem itC_app (xs ys : List Im) : itC (xs ++ ys) = itC xs ++ itC ys := by simp [itC]
set_option maxRecDepth 100000 in
theorem itC_len : ∀ xs : List Im, (itC xs).length = xs.length * 2
  | [] => rfl
  | x :: xs => by rw [itC_cons, List.length_cons, List.length_cons, itC_len xs, List.length_cons]; omega
set_option maxRecDepth 100000 in
theorem itC_at : ∀ (xs : List Im) (i : Nat), i < xs.length → (itC xs)[2 * i]? = some (.string (xs[i]!).1) ∧ (itC xs)[2 * i + 1]? = some (.string (xs[i]!).2)
  | [], i, h => by simp at h
  | x :: xs, 0, _ => by simp [itC_cons]
  | x :: xs, i + 1, h => by
    have h2 := itC_at xs i (by simpa using h)
    rw [itC_cons, show 2 * (i + 1) = 2 * i + 1 + 1 by omega, List.getElem?_cons_succ, List.getElem?_cons_succ, List.getElem?_cons_succ, List.getElem?_cons_succ]
    simpa using h2
set_option maxRecDepth 100000 in
theorem itC_one (xs : List Im) : ∀ u ∈ itC xs, u.oneCell' = true := by
  intro u hu
  simp only [itC, List.mem_flatMap] at hu
  obtain ⟨x, -, hx⟩ := hu
  simp only [List.mem_cons, List.not_mem_nil, or_false] at hx
  rcases hx with rfl | rfl <;> rfl
/- A slice of n parts of two cells each, whose cells are L. -/
structure Sl (w : World) (p : Option Addr) (n c : Nat) (L : List Value) : Prop where
  cap : n ≤ c ∧ c ≤ maxLen
  len : L.length = n * 2
  one : ∀ u ∈ L, u.oneCell' = true
  lies : 0 < n → ∃ b o, p = some ⟨b, o, none⟩ ∧ b < w.heap.size ∧ ∀ j u, L[j]? = some u → w.cell? ⟨b, o + j, none⟩ = some u
set_option maxRecDepth 100000 in
theorem cell_later {w w' : World} {b o : Nat} (hb : Below w.heap.size w w') (h : b < w.heap.size) : w'.cell? ⟨b, o, none⟩ = w.cell? ⟨b, o, none⟩ :=
  World.cell?_of_block (a := ⟨b, o, none⟩) (hb.block b h)
set_option maxRecDepth 100000 in
theorem Sl.later {w w' : World} {p : Option Addr} {n c : Nat} {L : List Value} (h : Sl w p n c L) (hb : Below w.heap.size w w') : Sl w' p n c L := by
  refine ⟨h.cap, h.len, h.one, fun h0 => ?_⟩
  obtain ⟨b, o, h1, h2, h3⟩ := h.lies h0
  exact ⟨b, o, h1, Nat.lt_of_lt_of_le h2 hb.size, fun j u hu => (cell_later hb h2).trans (h3 j u hu)⟩
set_option maxRecDepth 100000 in
theorem Sl.nil (w : World) : Sl w none 0 0 [] := ⟨⟨Nat.le_refl _, Nat.zero_le _⟩, rfl, fun _ h => (by cases h), fun h => absurd h (by omega)⟩
def cmpK (a b : ByteArray) : Int := if ltB a b then -1 else if ltB b a then 1 else 0
set_option maxRecDepth 100000 in
theorem cmpK_lt {a b : ByteArray} (h : Op.bytesLess a.toList b.toList = true) : cmpK a b = -1 := by unfold cmpK; rw [if_pos (show ltB a b = true from h)]
set_option maxRecDepth 100000 in
theorem cmpK_gt {a b : ByteArray} (h : Op.bytesLess a.toList b.toList = false) (h2 : ¬ a.toList = b.toList) : cmpK a b = 1 := by
  unfold cmpK
  rw [if_neg (show ¬ ltB a b = true by unfold ltB; rw [h]; simp), if_pos]
  rcases lt8_total a.toList b.toList with h3 | h3 | h3
  · unfold lt8 at h3; rw [h] at h3; cases h3
  · exact absurd h3 h2
  · exact h3
set_option maxRecDepth 100000 in
theorem cmpK_eq {a b : ByteArray} (h2 : a.toList = b.toList) : cmpK a b = 0 := by
  obtain rfl := toList_inj h2
  unfold cmpK
  have : ltB a a = false := lt8_irrefl _
  rw [this]
  simp
set_option maxRecDepth 100000 in
theorem cmpK_ne {a b : List UInt8} (h : (!a == b) = true) : ¬ a = b := by simpa using h
set_option maxRecDepth 100000 in
theorem cmpK_be {a b : List UInt8} (h : (!a == b) = false) : a = b := by simpa using h
set_option maxRecDepth 100000 in
theorem cmpK_neg {a b : ByteArray} : cmpK a b < 0 ↔ ltB a b = true := by
  unfold cmpK
  split
  · next h => simp [h]
  · next h => split <;> simp [h]
set_option maxRecDepth 100000 in
theorem cmpK_zero {a b : ByteArray} : cmpK a b = 0 ↔ a = b := by
  refine ⟨fun h => ?_, fun h => cmpK_eq (by rw [h])⟩
  rcases Bool.eq_false_or_eq_true (Op.bytesLess a.toList b.toList) with h3 | h3
  · rw [cmpK_lt h3] at h; cases h
  · apply toList_inj
    apply Classical.byContradiction
    intro h4
    rw [cmpK_gt h3 h4] at h
    cases h
set_option maxRecDepth 100000 in
set_option maxHeartbeats 1000000 in
theorem isnan (a : ByteArray) (w : World) : Calls Tryz.prog 141 #[.string a] w fun e w' => e = .returned (.bool false) ∧ w' = w := by
  go_enter Tryz.func141, Tryz.ntmps141
  go_wp2
  go_ret
  simp
set_option maxRecDepth 100000 in
set_option maxHeartbeats 1000000 in
theorem ccmp (a b : ByteArray) (w : World) : Calls Tryz.prog 109 #[.string a, .string b] w fun e w' => e = .returned (.int .i64 (cmpK a b)) ∧ w' = w := by
  obtain ⟨X, hX⟩ : ∃ X, cmpK a b = X := ⟨_, rfl⟩
  rw [hX]
  have HX : Hid (cmpK a b = X) := hX
  clear hX
  have hi := isnan a w
  have hj := isnan b w
  go_enter Tryz.func109, Tryz.ntmps109
  go_wp2_with (first | (go_at_call_of 141 a; refine hi.mono ?_; rintro e w1 ⟨rfl, rfl⟩) | (go_at_call_of 141 b; refine hj.mono ?_; rintro e w1 ⟨rfl, rfl⟩))
  all_goals
    go_ret
    rw [← HX.out]
    refine ⟨?_, rfl⟩
    first
    | (rw [cmpK_lt (by assumption)]; rfl)
    | (rw [cmpK_gt (by assumption) (cmpK_ne (by assumption))]; rfl)
    | (rw [cmpK_eq (cmpK_be (by assumption))]; rfl)
set_option maxRecDepth 100000 in
set_option maxHeartbeats 1000000 in
theorem fcmp (x : Im) (key : ByteArray) (w : World) : Calls Tryz.prog 108 #[.agg #[.string x.1, .string x.2], .string key] w fun e w' => e = .returned (.int .i64 (cmpK x.1 key)) ∧ Below w.heap.size w w' := by
  go_enter Tryz.func108, Tryz.ntmps108
  go_wp2_with (go_at_call 109; refine (ccmp _ _ _).mono ?_; rintro e w1 ⟨rfl, rfl⟩)
  go_ret
  exact ⟨rfl, (Below.refl _ w).alloc (Nat.le_refl _) _⟩
set_option maxRecDepth 100000 in
theorem count_at {α : Type} [Inhabited α] (p : α → Bool) : ∀ (l : List α) (i : Nat), i ≤ l.length → (∀ t, t < i → p l[t]! = true) → (∀ t, i ≤ t → t < l.length → p l[t]! = false) → l.countP p = i
  | [], i, hi, _, _ => by simp at hi; simp [hi]
  | a :: r, 0, _, _, h2 => by
    rw [List.countP_eq_zero]
    intro x hx
    obtain ⟨t, ht, rfl⟩ := List.getElem_of_mem hx
    have := h2 t (Nat.zero_le _) ht
    rw [getElem!_pos (a :: r) t ht] at this
    simp [this]
  | a :: r, i + 1, hi, h1, h2 => by
    have ha : p a = true := by simpa using h1 0 (Nat.succ_pos _)
    rw [List.countP_cons_of_pos ha, count_at p r i (by simpa using hi) (fun t ht => by simpa using h1 (t + 1) (by omega)) (fun t h3 h4 => by simpa using h2 (t + 1) (by omega) (by simpa using h4))]
/- Keys that rise; how many are below one; whether it is among them. -/
def Ris (xs : List Im) : Prop := ∀ i j, i < j → j < xs.length → ltB (xs[i]!).1 (xs[j]!).1 = true
def posK (xs : List Im) (key : ByteArray) : Nat := xs.countP (fun x => ltB x.1 key)
def isK (xs : List Im) (key : ByteArray) : Bool := decide (posK xs key < xs.length) && decide (cmpK (xs[posK xs key]!).1 key = 0)
set_option maxRecDepth 100000 in
theorem posK_le (xs : List Im) (key : ByteArray) : posK xs key ≤ xs.length := List.countP_le_length
set_option maxRecDepth 100000 in
theorem Sl.it {w : World} {p : Option Addr} {n c : Nat} {xs : List Im} (h : Sl w p n c (itC xs)) : n = xs.length := by
  have := h.len
  rw [itC_len] at this
  omega
set_option maxRecDepth 100000 in
set_option maxHeartbeats 4000000 in
theorem bsf_any (xs : List Im) (hr : Ris xs) (hn : xs.length ≤ 1000) (key : ByteArray) (p : Option Addr) (c : Nat) (w : World) (hS : Sl w p xs.length c (itC xs)) :
    Calls Tryz.prog 107 #[.slice p xs.length c, .string key, .func (.func 108) #[] #[]] w fun e w' => e = .returned (.tuple #[.int .i64 (posK xs key : Nat), .bool (isK xs key)]) ∧ Below w.heap.size w w' := by
  obtain ⟨cnt, hcnt⟩ : ∃ k, posK xs key = k := ⟨_, rfl⟩
  obtain ⟨fin, hfin⟩ : ∃ k, isK xs key = k := ⟨_, rfl⟩
  rw [hcnt, hfin]
  have CN : Hid (posK xs key = cnt) := hcnt
  have FN : Hid (isK xs key = fin) := hfin
  have HR : Hid (Ris xs) := hr
  clear hcnt hfin hr
  have hcap := hS.cap
  have hmx : maxLen = 9223372036854775807 := rfl
  go_enter Tryz.func107, Tryz.ntmps107
  go_wp2
  go_loopg [9, 10] xs.length (fun kx s9 s10 wr => ∃ lo hi : Nat, s9 = .int .i64 lo ∧ s10 = .int .i64 hi ∧ lo ≤ hi ∧ hi ≤ xs.length ∧ hi - lo ≤ kx ∧ Below w.heap.size w wr ∧
    Hid ((∀ t, t < lo → ltB (xs[t]!).1 key = true) ∧ (∀ t, hi ≤ t → t < xs.length → ltB (xs[t]!).1 key = false)))
  case atStart => exact ⟨0, xs.length, rfl, rfl, Nat.zero_le _, Nat.le_refl _, by omega, Below.refl _ _, (⟨fun t ht => absurd ht (Nat.not_lt_zero _), fun t h1 h2 => by omega⟩ : (∀ t, t < 0 → ltB (xs[t]!).1 key = true) ∧ (∀ t, xs.length ≤ t → t < xs.length → ltB (xs[t]!).1 key = false))⟩
  case round =>
    obtain ⟨lo, hi, rfl, rfl, hlh, hin, hg, hB, I⟩ := hrel
    by_cases hlt : lo < hi
    · obtain ⟨b, o, rfl, hb, hc⟩ := hS.lies (by omega)
      obtain ⟨c1, c2⟩ := itC_at xs ((lo + hi) / 2) (by omega)
      have z1 := (cell_later hB hb).trans (hc _ _ c1)
      have z2 := (cell_later hB hb).trans (hc _ _ c2)
      have hk := fun W => fcmp (xs[(lo + hi) / 2]!) key W
      have hR := fun t ht h => (HR.out t ((lo + hi) / 2) ht h)
      obtain ⟨y, hy⟩ : ∃ y, xs[(lo + hi) / 2]! = y := ⟨_, rfl⟩
      rw [hy] at z1 z2 hk
      have HY : Hid (xs[(lo + hi) / 2]! = y) := hy
      clear hy c1 c2 hR
      rw [show o + 2 * ((lo + hi) / 2) = o + (lo + hi) / 2 * 2 by omega] at z1
      rw [show o + (2 * ((lo + hi) / 2) + 1) = o + (lo + hi) / 2 * 2 + 1 by omega] at z2
      by_cases hyx : cmpK y.1 key < 0
      · go_wp2_with fail
        refine (hk _).mono ?_
        rintro e w' ⟨rfl, hb2⟩
        go_wp2
        go_roundg (hi - ((lo + hi) / 2 + 1))
        case measure => omega
        case rel =>
          refine ⟨(lo + hi) / 2 + 1, hi, by rw [show ((lo : Int) + (hi : Int)) / 2 + 1 = (((lo + hi) / 2 + 1 : Nat) : Int) by omega], rfl, by omega, hin, Nat.le_refl _, hB.trans (hb2.mono hB.size), ?_⟩
          refine ⟨fun t ht => ?_, I.out.2⟩
          have hy2 : ltB (xs[(lo + hi) / 2]!).1 key = true := by rw [HY.out]; exact cmpK_neg.1 hyx
          by_cases e : t = (lo + hi) / 2
          · rw [e]; exact hy2
          · exact lt8_trans (HR.out t ((lo + hi) / 2) (by omega) (by omega)) hy2
      · go_wp2_with fail
        refine (hk _).mono ?_
        rintro e w' ⟨rfl, hb2⟩
        go_wp2
        go_roundg ((lo + hi) / 2 - lo)
        case measure => omega
        case rel =>
          refine ⟨lo, (lo + hi) / 2, rfl, by rw [show ((lo : Int) + (hi : Int)) / 2 = (((lo + hi) / 2 : Nat) : Int) by omega], by omega, by omega, Nat.le_refl _, hB.trans (hb2.mono hB.size), ?_⟩
          refine ⟨I.out.1, fun t h1 h2 => ?_⟩
          have hy2 : ltB (xs[(lo + hi) / 2]!).1 key = false := by
            rw [HY.out]
            cases h : ltB y.1 key
            · rfl
            · have := cmpK_neg.2 h; omega
          by_cases e : t = (lo + hi) / 2
          · rw [e]; exact hy2
          · cases h : ltB (xs[t]!).1 key
            · rfl
            · have := lt8_trans (HR.out ((lo + hi) / 2) t (by omega) h2) h
              exact absurd this (by unfold lt8; unfold ltB at hy2; rw [hy2]; simp)
    · obtain rfl : lo = hi := by omega
      have hlo : posK xs key = lo := count_at _ xs lo hin I.out.1 I.out.2
      obtain rfl : lo = cnt := hlo.symm.trans CN.out
      by_cases hlt2 : lo < xs.length
      · obtain ⟨b, o, rfl, hb, hc⟩ := hS.lies (by omega)
        obtain ⟨c1, c2⟩ := itC_at xs lo hlt2
        have z1 := (cell_later hB hb).trans (hc _ _ c1)
        have z2 := (cell_later hB hb).trans (hc _ _ c2)
        have hk := fun W => fcmp (xs[lo]!) key W
        have hf : isK xs key = decide (cmpK (xs[lo]!).1 key = 0) := by unfold isK; rw [hlo, decide_eq_true hlt2, Bool.true_and]
        obtain ⟨y, hy⟩ : ∃ y, xs[lo]! = y := ⟨_, rfl⟩
        rw [hy] at z1 z2 hk hf
        clear hy c1 c2
        rw [show o + 2 * lo = o + lo * 2 by omega] at z1
        rw [show o + (2 * lo + 1) = o + lo * 2 + 1 by omega] at z2
        have FF : Hid (decide (cmpK y.1 key = 0) = fin) := hf.symm.trans FN.out
        clear hf FN CN I hlo HR
        go_wp2_with fail
        refine (hk _).mono ?_
        rintro e w' ⟨rfl, hb2⟩
        go_wp2
        refine bodyPost_ret (results_tmp2 rfl _ _ _) rfl ⟨?_, hB.trans (hb2.mono hB.size)⟩
        rw [← FF.out]
        rfl
      · have hf : isK xs key = false := by unfold isK; rw [hlo, decide_eq_false hlt2, Bool.false_and]
        obtain rfl : false = fin := hf.symm.trans FN.out
        clear hf FN CN I hlo HR
        go_wp2
        exact bodyPost_ret (results_tmp2 rfl _ _ _) rfl ⟨rfl, hB⟩
/- A node: the list of its keys and the list of its kids. -/
def ndV (p : Option Addr) (n c : Nat) (q : Option Addr) (m d : Nat) : Value := .agg #[.slice p n c, .slice q m d]
set_option maxRecDepth 100000 in
set_option maxHeartbeats 1000000 in
theorem find_any (xs : List Im) (hr : Ris xs) (hn : xs.length ≤ 1000) (key : ByteArray) (p : Option Addr) (c : Nat) (q : Option Addr) (m d : Nat) (w : World) (hS : Sl w p xs.length c (itC xs)) :
    Calls Tryz.prog 77 #[.agg #[.slice p xs.length c, .slice q m d], .string key] w fun e w' => e = .returned (.tuple #[.int .i64 (posK xs key : Nat), .bool (isK xs key)]) ∧ Below w.heap.size w w' := by
  have b0 : ∀ o, Below w.heap.size w (w.alloc o) := fun o => (Below.refl _ w).alloc (Nat.le_refl _) o
  go_enter Tryz.func77, Tryz.ntmps77
  go_wp2_with fail
  refine (bsf_any xs hr hn key p c _ (hS.later (b0 _))).mono ?_
  rintro e w1 ⟨rfl, hb1⟩
  go_wp2
  exact bodyPost_ret (results_tmp2 rfl _ _ _) rfl ⟨rfl, (b0 _).trans (hb1.mono (by simp))⟩
set_option maxRecDepth 100000 in
set_option maxHeartbeats 1000000 in
theorem leaf_any (p : Option Addr) (n c : Nat) (q : Option Addr) (m d : Nat) (w : World) :
    Calls Tryz.prog 76 #[.agg #[.slice p n c, .slice q m d]] w fun e w' => e = .returned (.bool (decide (m = 0))) ∧ Below w.heap.size w w' := by
  obtain ⟨X, hX⟩ : ∃ X, decide (m = 0) = X := ⟨_, rfl⟩
  rw [hX]
  have HX : Hid (decide (m = 0) = X) := hX
  clear hX
  go_enter Tryz.func76, Tryz.ntmps76
  go_wp2
  go_ret
  rw [← HX.out]
  refine ⟨?_, (Below.refl _ w).alloc (Nat.le_refl _) _⟩
  by_cases h : m = 0 <;> simp [h]
def hasB (lo hi key : ByteArray) : Bool := !Op.bytesLess key.toList lo.toList && (hi.toList.isEmpty || Op.bytesLess key.toList hi.toList)
set_option maxRecDepth 100000 in
theorem hasB_no {lo hi key : ByteArray} (h : Op.bytesLess key.toList lo.toList = true) : hasB lo hi key = false := by unfold hasB; rw [h]; rfl
set_option maxRecDepth 100000 in
theorem hasB_open {lo hi key : ByteArray} (h : Op.bytesLess key.toList lo.toList = false) (h2 : hi.toList.isEmpty = true) : hasB lo hi key = true := by unfold hasB; rw [h, h2]; rfl
set_option maxRecDepth 100000 in
theorem hasB_end {lo hi key : ByteArray} (h : Op.bytesLess key.toList lo.toList = false) (h2 : hi.toList.isEmpty = false) : hasB lo hi key = Op.bytesLess key.toList hi.toList := by unfold hasB; rw [h, h2]; rfl
set_option maxRecDepth 20000 in
set_option maxHeartbeats 2000000 in
theorem has_any (lo hi key : ByteArray) (w : World) : Calls Tryz.prog 104 #[.agg #[.string lo, .string hi], .string key] w fun e w' => e = .returned (.bool (hasB lo hi key)) ∧ Below w.heap.size w w' := by
  obtain ⟨X, hX⟩ : ∃ X, hasB lo hi key = X := ⟨_, rfl⟩
  rw [hX]
  have HX : Hid (hasB lo hi key = X) := hX
  clear hX
  have hb : Below w.heap.size w (w.alloc (.cells #[.string lo, .string hi] 24)) := (Below.refl _ w).alloc (Nat.le_refl _) _
  go_enter Tryz.func104, Tryz.ntmps104
  go_wp2
  · rename_i h1 h2
    go_ret
    rw [← HX.out, hasB_open h1 h2]
    exact ⟨rfl, hb⟩
  · rename_i h1 h2
    go_ret
    rw [← HX.out, hasB_end h1 h2]
    exact ⟨rfl, hb⟩
  · rename_i h1
    go_ret
    rw [← HX.out, hasB_no h1]
    exact ⟨rfl, hb⟩
end Go.Proofs.YtniljoojoafiaaaGreatDoor.B
