/- A sound value's bytes behind others (put), of each kind; and of any sound value. A value's bytes, or why it has none (Encode, Check). A sound value's key has at most nine times as many bytes as the value; a cut value's texts are short; Pair. The order of texts, byte by byte, and the least text above all that begin with one: plain facts. Keys are ordered as values are, and none begins with another one's: plain facts on lists of bytes. What is in a span (Has), in none (Empty), in all (All), the lower end (lower): of any spans and keys. The least text above all that begin with one (Next), of any text. -/
import Derived.Test.YtfemippjaokcmaaGreatDoorXas
import Derived.Test.YtfemippjaokcmaaGreatDoorXat
import Derived.Test.YtfemippjaokcmaaGreatDoorXau
import Derived.Test.YtfemippjaokcmaaGreatDoorXaw
import GoSem.Op.String
import Derived.RegionTactic
import Derived.StillTailTactics
import Derived.Test.YtfemippjaokcmaaGreatDoorXaq
namespace Go.Proofs.YtfemippjaokcmaaGreatDoor.V
open Go.RowKit
end Go.Proofs.YtfemippjaokcmaaGreatDoor.V
namespace Go.Proofs.YtfemippjaokcmaaGreatDoor.V
open Go.RowKit
end Go.Proofs.YtfemippjaokcmaaGreatDoor.V
namespace Go.Proofs.YtfemippjaokcmaaGreatDoor.V
open Go.RowKit
set_option maxRecDepth 100000 in
theorem Gm.pos {w : World} (h : Gm w) : 0 < w.heap.size := by obtain ⟨m, hm⟩ := h; exact Nat.lt_of_le_of_lt (Nat.zero_le _) (block_lt hm)
end Go.Proofs.YtfemippjaokcmaaGreatDoor.V
namespace Go.Proofs.YtfemippjaokcmaaGreatDoor.V
def lt8 (x y : List UInt8) : Bool := Op.bytesLess x y
theorem lt8_nil_r (x : List UInt8) : lt8 x [] = false := by cases x <;> simp [lt8, Op.bytesLess]
theorem lt8_nil_l (c : UInt8) (y : List UInt8) : lt8 [] (c :: y) = true := by simp [lt8, Op.bytesLess]
theorem lt8_cons (a b : UInt8) (x y : List UInt8) : lt8 (a :: x) (b :: y) = (decide (a < b) || (a == b && lt8 x y)) := by simp [lt8, Op.bytesLess]
theorem u8_lt {a b : UInt8} : a < b ↔ a.toNat < b.toNat := UInt8.lt_iff_toNat_lt
theorem u8_eq {a b : UInt8} : a = b ↔ a.toNat = b.toNat := UInt8.toNat_inj.symm
theorem lt8_irrefl (x : List UInt8) : lt8 x x = false := by
  induction x with
  | nil => rfl
  | cons a x ih => rw [lt8_cons, ih]; simp
theorem lt8_trans {x y z : List UInt8} (h : lt8 x y = true) (k : lt8 y z = true) : lt8 x z = true := by
  induction x generalizing y z with
  | nil =>
    cases z with
    | nil => rw [lt8_nil_r] at k; cases k
    | cons c z => exact lt8_nil_l c z
  | cons a x ih =>
    cases y with
    | nil => rw [lt8_nil_r] at h; cases h
    | cons b y =>
      cases z with
      | nil => rw [lt8_nil_r] at k; cases k
      | cons c z =>
        rw [lt8_cons] at h k ⊢
        simp only [Bool.or_eq_true, decide_eq_true_eq, Bool.and_eq_true, beq_iff_eq] at h k ⊢
        rw [u8_lt, u8_eq] at h k ⊢
        rcases h with h | ⟨h1, h2⟩ <;> rcases k with k | ⟨k1, k2⟩
        · left; omega
        · left; omega
        · left; omega
        · right; exact ⟨by omega, ih h2 k2⟩
theorem lt8_total (x y : List UInt8) : lt8 x y = true ∨ x = y ∨ lt8 y x = true := by
  induction x generalizing y with
  | nil =>
    cases y with
    | nil => exact Or.inr (Or.inl rfl)
    | cons c y => exact Or.inl (lt8_nil_l c y)
  | cons a x ih =>
    cases y with
    | nil => exact Or.inr (Or.inr (lt8_nil_l a x))
    | cons b y =>
      rw [lt8_cons, lt8_cons]
      rcases Nat.lt_trichotomy a.toNat b.toNat with h | h | h
      · left; simp [u8_lt.2 h]
      · have e : a = b := u8_eq.2 h
        subst e
        rcases ih y with h | h | h
        · left; simp [h]
        · right; left; rw [h]
        · right; right; simp [h]
      · right; right; simp [u8_lt.2 h]
theorem lt8_asymm {x y : List UInt8} (h : lt8 x y = true) : lt8 y x = false := by
  cases k : lt8 y x with
  | false => rfl
  | true => have := lt8_trans h k; rw [lt8_irrefl] at this; cases this
theorem lt8_ne {x y : List UInt8} (h : lt8 x y = true) : x ≠ y := fun e => by rw [e, lt8_irrefl] at h; cases h
def nextF : List UInt8 → Option (List UInt8)
  | [] => none
  | c :: r => match nextF r with
    | some x => some (c :: x)
    | none => if c = 255 then none else some [c + 1]
def nextL (s : List UInt8) : List UInt8 := (nextF s).getD []
theorem nextF_ff (l : List UInt8) : nextF (l ++ [255]) = nextF l := by
  induction l with
  | nil => rfl
  | cons c r ih => rw [List.cons_append, nextF, nextF, ih]
theorem nextF_up (l : List UInt8) (c : UInt8) (h : c ≠ 255) : nextF (l ++ [c]) = some (l ++ [c + 1]) := by
  induction l with
  | nil => simp [nextF, h]
  | cons d r ih => rw [List.cons_append, nextF, ih]; rfl
end Go.Proofs.YtfemippjaokcmaaGreatDoor.V
namespace Go.Proofs.YtfemippjaokcmaaGreatDoor.V
open Go.RowKit
/- One of two lists begins with the other. -/
def Comp (p q : List UInt8) : Prop := p <+: q ∨ q <+: p
theorem Comp.symm {p q : List UInt8} (h : Comp p q) : Comp q p := Or.symm h
theorem Comp.refl (p : List UInt8) : Comp p p := Or.inl (List.prefix_refl p)
end Go.Proofs.YtfemippjaokcmaaGreatDoor.V
namespace Go.Proofs.YtfemippjaokcmaaGreatDoor.V
open Go.RowKit
theorem min_str (ts : Array TypeId) (t : TypeId) (a b : ByteArray) (w : World) : (Builtin.min_ ts t #[.string a, .string b]).run Tryz.prog w = .ok (.string (if (Op.bytesLess a.toList b.toList || a.toList == b.toList) = true then a else b)) w := by
  simp [Builtin.min_, Builtin.min2, Op.stringOp, asBool]
theorem max_str (ts : Array TypeId) (t : TypeId) (a b : ByteArray) (w : World) : (Builtin.max_ ts t #[.string a, .string b]).run Tryz.prog w = .ok (.string (if (!Op.bytesLess a.toList b.toList) = true then a else b)) w := by
  simp [Builtin.max_, Builtin.max2, Op.stringOp, asBool]
def lowerB (a b : ByteArray) : ByteArray := if (a.toList.isEmpty || b.toList.isEmpty) = true then a ++ b else if (Op.bytesLess a.toList b.toList || a.toList == b.toList) = true then a else b
theorem size_of_empty {a : ByteArray} (h : a.toList.isEmpty = true) : a.size = 0 := by
  rw [Lib.size_eq, ← Lib.toList_data]
  simpa using h
def maxS (a b : ByteArray) : ByteArray := if (!Op.bytesLess a.toList b.toList) = true then a else b
end Go.Proofs.YtfemippjaokcmaaGreatDoor.V
namespace Go.Proofs.YtfemippjaokcmaaGreatDoor.V
open Go.RowKit
def nextB (s : ByteArray) : ByteArray := ⟨(nextL s.data.toList).toArray⟩
theorem take_up (s : ByteArray) (k : Nat) (h : k < s.size) : s.data.toList.take (k + 1) = s.data.toList.take k ++ [s[k]] := by
  rw [List.take_succ_eq_append_getElem (by simpa using h)]; rfl
theorem ext_cat (s : ByteArray) (j : Nat) (c : UInt8) : s.extract 0 j ++ ⟨#[c]⟩ = ⟨(s.data.toList.take j ++ [c]).toArray⟩ := by
  refine ByteArray.ext ?_
  rw [ByteArray.data_append, ByteArray.data_extract]
  apply Array.ext'
  simp
set_option maxRecDepth 20000 in
set_option maxHeartbeats 1000000 in
theorem next_any (s : ByteArray) (hs : s.size ≤ maxLen) (w : World) :
    Calls Tryz.prog 47 #[.string s] w fun e w' => e = .returned (.string (nextB s)) ∧ Below w.heap.size w w' := by
  unfold maxLen at hs
  obtain ⟨X, hX⟩ : ∃ X, nextB s = X := ⟨_, rfl⟩
  rw [hX]
  have HX : Hid (nextB s = X) := hX
  clear hX
  have hl : IntKind.i64.wrap ((s.size : Int) - 1) = (s.size : Int) - 1 := by rw [IntKind.wrap_i64]; omega
  go_enter Tryz.func47, Tryz.ntmps47
  go_wp2
  go_loopw [3] (fun c3 wr => ∃ (k : Nat), k ≤ s.size ∧ c3 = .int .i64 ((k : Int) - 1) ∧ nextF (s.data.toList.take k) = nextF s.data.toList ∧ wr = w) (fun c3 _ => (intOf c3 + 1).toNat)
  case atStart =>
    exact ⟨s.size, Nat.le_refl _, rfl, by rw [List.take_of_length_le (by simp)], rfl⟩
  case round =>
    obtain ⟨k, hk, rfl, hn, rfl⟩ := hrel
    have HN : Hid (nextF (s.data.toList.take k) = nextF s.data.toList) := hn
    clear hn
    rcases Nat.eq_zero_or_pos k with rfl | hk0
    · have hx : nextB s = ⟨#[]⟩ := by unfold nextB nextL; rw [← HN.out]; rfl
      obtain rfl := hx.symm.trans HX.out
      go_wp2
      all_goals
        go_ret
        exact ⟨rfl, Below.refl _ _⟩
    · obtain ⟨j, rfl⟩ : ∃ j, k = j + 1 := ⟨k - 1, by omega⟩
      have hj : ((j + 1 : Nat) : Int) - 1 = (j : Int) := by omega
      rw [hj]
      have hjs : j < s.size := by omega
      have hjs' : (j : Int) < (s.size : Int) := by omega
      rw [take_up s j hjs] at HN
      by_cases hff : s[j].toNat = 255
      · have hff' : (s[j].toNat : Int) = 255 := by omega
        go_wp2
        go_roundw
        case rel => exact ⟨j, by omega, by go_num, by
          have e : s[j] = 255 := u8_eq.2 hff
          have := HN.out
          rw [e, nextF_ff] at this
          exact this, by trivial⟩
        case measure => simp [intOf]
      · have hff' : ¬ (s[j].toNat : Int) = 255 := by omega
        have hne : s[j] ≠ 255 := fun e => hff (u8_eq.1 e)
        have hx : nextB s = ⟨(s.data.toList.take j ++ [s[j] + 1]).toArray⟩ := by
          unfold nextB nextL
          rw [← HN.out, nextF_up _ _ hne]
          rfl
        have HY := hx.symm.trans HX.out
        clear hx
        obtain ⟨c, hc⟩ : ∃ c, s[j] + 1 = c := ⟨_, rfl⟩
        obtain ⟨v, hv⟩ : ∃ v : Int, IntKind.u8.wrap ((s[j].toNat : Int) + 1) = v := ⟨_, rfl⟩
        have hvc : v = (c.toNat : Int) := by
          rw [← hv, ← hc, IntKind.wrap_u8', UInt8.toNat_add]
          have h3 : (1 : UInt8).toNat = 1 := rfl
          rw [h3]
          omega
        rw [hc] at HY
        have HY' : Hid (X = ⟨(s.data.toList.take j ++ [c]).toArray⟩) := HY.symm
        have HV : Hid (v = (c.toNat : Int)) := hvc
        have hcv : (convert 84 9 (.slice (some ⟨wr.heap.size, 0, none⟩) 1 1)).run Tryz.prog (wr.alloc (.cells #[.int .u8 v] 5)).drew = .ok (.string ⟨#[c]⟩) (wr.alloc (.cells #[.int .u8 v] 5)).drew := conv1 wr.drew c 5 v hvc
        have hz : (s.extract 0 j).size + (⟨#[c]⟩ : ByteArray).size ≤ 9223372036854775807 := by
          have h1 : (⟨#[c]⟩ : ByteArray).size = 1 := rfl
          rw [h1, ByteArray.size_extract]
          omega
        clear HY hvc hc HX HN hne
        go_wp2
        go_region
        all_goals
          go_wp2
          go_ret
          refine ⟨?_, ((Below.refl _ wr).alloc (Nat.le_refl _) _).drew⟩
          rw [HY'.out, ext_cat]
          rfl
end Go.Proofs.YtfemippjaokcmaaGreatDoor.V
