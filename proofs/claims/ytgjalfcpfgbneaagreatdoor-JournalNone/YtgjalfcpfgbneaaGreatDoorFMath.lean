/- Plain facts about words of 32 bits and about the check of a list of bytes (CRC-32, half a byte at a time), its four bytes, frames, and the frames of a text from the front on. No condition. -/
import Derived.WalkKit
namespace Go.Proofs.YtgjalfcpfgbneaaGreatDoor.F
open Go

def n32 (x : BitVec 32) : Int := (x.toNat : Int)
theorem n32_nn (x : BitVec 32) : 0 ≤ n32 x := by unfold n32; omega
theorem n32_lt (x : BitVec 32) : n32 x < 4294967296 := by
  unfold n32; have := x.isLt; omega
theorem n32_ofInt (x : BitVec 32) : BitVec.ofInt 32 (n32 x) = x := by
  unfold n32; simp
theorem n32_wrap (x : BitVec 32) : IntKind.u32.wrap (x.toNat : Int) = n32 x := by
  have := x.isLt
  rw [IntKind.wrap_u32']; unfold n32; omega
theorem n32_or (x y : BitVec 32) : bits BinOp.or IntKind.u32 (n32 x) (n32 y) = n32 (x ||| y) := by
  show IntKind.u32.wrap ((BitVec.ofInt 32 (n32 x) ||| BitVec.ofInt 32 (n32 y)).toNat : Int) = _
  rw [n32_ofInt, n32_ofInt, n32_wrap]
theorem n32_xor (x y : BitVec 32) : bits BinOp.xor IntKind.u32 (n32 x) (n32 y) = n32 (x ^^^ y) := by
  show IntKind.u32.wrap ((BitVec.ofInt 32 (n32 x) ^^^ BitVec.ofInt 32 (n32 y)).toNat : Int) = _
  rw [n32_ofInt, n32_ofInt, n32_wrap]
theorem n32_not (x : BitVec 32) : bits BinOp.xor IntKind.u32 IntKind.u32.max (n32 x) = n32 (~~~x) := by
  show IntKind.u32.wrap ((BitVec.ofInt 32 (2 ^ 32 - 1) ^^^ BitVec.ofInt 32 (n32 x)).toNat : Int) = _
  rw [n32_ofInt, n32_wrap]
  have : BitVec.ofInt 32 (2 ^ 32 - 1) = BitVec.allOnes 32 := by decide
  rw [this, BitVec.allOnes_xor]
theorem n32_sub (x : BitVec 32) : (4294967295 - n32 x) = n32 (~~~x) := by
  unfold n32; rw [BitVec.toNat_not]; have := x.isLt; omega
theorem n32_shr (x : BitVec 32) (k : Nat) : n32 x / (2 ^ k : Nat) = n32 (x >>> k) := by
  unfold n32; rw [BitVec.toNat_ushiftRight, Nat.shiftRight_eq_div_pow]; norm_cast
theorem n32_shl (x : BitVec 32) (k : Nat) : n32 x * (2 ^ k : Nat) % 4294967296 = n32 (x <<< k) := by
  unfold n32; rw [BitVec.toNat_shiftLeft, Nat.shiftLeft_eq, Int.natCast_emod, Int.natCast_mul]; rfl
theorem n32_id (x : BitVec 32) : n32 x % (4294967296 : Int) = n32 x := Int.emod_eq_of_lt (n32_nn x) (n32_lt x)
theorem n32_inj {x y : BitVec 32} (h : n32 x = n32 y) : x = y := by
  unfold n32 at h
  exact BitVec.eq_of_toNat_eq (by omega)

/- The check. -/
def tabB : List (BitVec 32) := [0#32, 498536548#32, 997073096#32, 651767980#32, 1994146192#32, 1802195444#32, 1303535960#32, 1342533948#32, 3988292384#32, 4027552580#32, 3604390888#32, 3412177804#32, 2607071920#32, 2262029012#32, 2685067896#32, 3183342108#32]
def ixB (c : BitVec 32) : Nat := c.toNat % 16
theorem ixB_lt (c : BitVec 32) : ((ixB c : Nat) : Int) < 16 := by unfold ixB; omega
def tabF (i : Nat) : BitVec 32 := tabB.getD i 0
def nibB (c : BitVec 32) : BitVec 32 := (c >>> 4) ^^^ tabF (ixB c)
theorem nib_eq (c : BitVec 32) : n32 ((c >>> 4) ^^^ tabF (ixB c)) = n32 (nibB c) := rfl
theorem n32_shr4 (x : BitVec 32) : n32 x / (16 : Int) = n32 (x >>> 4) := n32_shr x 4
theorem n32_mod16 (x : BitVec 32) : (n32 x).tmod (16 : Int) = ((ixB x : Nat) : Int) := by
  unfold n32 ixB
  rw [Int.tmod_eq_emod_of_nonneg (by omega)]; omega
theorem n32_quo16 (x : BitVec 32) : (n32 x).tdiv (16 : Int) = n32 (x >>> 4) := by
  rw [Int.tdiv_eq_ediv_of_nonneg (n32_nn x)]; exact n32_shr x 4
def wB (b : UInt8) : BitVec 32 := BitVec.ofNat 32 b.toNat
def stepB (c : BitVec 32) (b : UInt8) : BitVec 32 := nibB (nibB (c ^^^ wB b))
def crcB (l : List UInt8) : BitVec 32 := l.foldl stepB 4294967295#32
def checkB (l : List UInt8) : BitVec 32 := ~~~ (crcB l)
theorem crcB_snoc (l : List UInt8) (b : UInt8) : crcB (l ++ [b]) = stepB (crcB l) b := by simp [crcB]
theorem crcB_take (l : List UInt8) (i : Nat) (h : i < l.length) : crcB (l.take (i + 1)) = stepB (crcB (l.take i)) (l.getD i 0) := by
  rw [List.take_succ_eq_append_getElem h, crcB_snoc]
  simp [List.getD_eq_getElem?_getD, h]

/- Half a byte, reckoned bit by bit. -/
def bitB (n : BitVec 32) : BitVec 32 := if n.toNat % 2 = 1 then (n >>> 1) ^^^ 3988292384#32 else n >>> 1
def halfB (n : BitVec 32) : Nat → BitVec 32
  | 0 => n
  | k + 1 => bitB (halfB n k)
theorem half_tab (n : Nat) (h : n < 16) : halfB (BitVec.ofNat 32 n) 4 = tabF n := by
  have : ∀ m : Fin 16, halfB (BitVec.ofNat 32 m.val) 4 = tabF m.val := by decide +kernel
  exact this ⟨n, h⟩

/- A number's four bytes, and the number of four bytes. -/
def four (x : BitVec 32) : List UInt8 := [UInt8.ofNat (x.toNat % 256), UInt8.ofNat (x.toNat / 256 % 256), UInt8.ofNat (x.toNat / 65536 % 256), UInt8.ofNat (x.toNat / 16777216)]
def numL (l : List UInt8) : Nat := (l.getD 0 0).toNat + (l.getD 1 0).toNat * 256 + (l.getD 2 0).toNat * 65536 + (l.getD 3 0).toNat * 16777216
theorem numL_lt (l : List UInt8) : numL l < 4294967296 := by
  unfold numL
  have := (l.getD 0 0).toNat_lt
  have := (l.getD 1 0).toNat_lt
  have := (l.getD 2 0).toNat_lt
  have := (l.getD 3 0).toNat_lt
  omega
theorem four_len (x : BitVec 32) : (four x).length = 4 := rfl
theorem num_four (x : BitVec 32) : numL (four x) = x.toNat := by
  have := x.isLt
  unfold numL four
  simp [UInt8.toNat_ofNat']
  omega
theorem num_four_app (x : BitVec 32) (r : List UInt8) : numL (four x ++ r) = x.toNat := by
  rw [← num_four x]; rfl
theorem four_num (l : List UInt8) (h : l.length = 4) : four (BitVec.ofNat 32 (numL l)) = l := by
  match l, h with
  | [a, b, c, d], _ =>
    have ha := a.toNat_lt
    have hb := b.toNat_lt
    have hc := c.toNat_lt
    have hd := d.toNat_lt
    have hl := numL_lt [a, b, c, d]
    have e : numL [a, b, c, d] = a.toNat + b.toNat * 256 + c.toNat * 65536 + d.toNat * 16777216 := rfl
    have e2 : (BitVec.ofNat 32 (numL [a, b, c, d])).toNat = numL [a, b, c, d] := by
      rw [BitVec.toNat_ofNat, Nat.mod_eq_of_lt hl]
    unfold four
    rw [e2, e]
    have r1 : (a.toNat + b.toNat * 256 + c.toNat * 65536 + d.toNat * 16777216) % 256 = a.toNat := by omega
    have r2 : (a.toNat + b.toNat * 256 + c.toNat * 65536 + d.toNat * 16777216) / 256 % 256 = b.toNat := by omega
    have r3 : (a.toNat + b.toNat * 256 + c.toNat * 65536 + d.toNat * 16777216) / 65536 % 256 = c.toNat := by omega
    have r4 : (a.toNat + b.toNat * 256 + c.toNat * 65536 + d.toNat * 16777216) / 16777216 = d.toNat := by omega
    rw [r1, r2, r3, r4]
    simp
theorem four_eq_iff (x : BitVec 32) (l : List UInt8) (h : l.length = 4) : four x = l ↔ x.toNat = numL l := by
  constructor
  · intro e; rw [← e, num_four]
  · intro e
    rw [← four_num l h, ← e]
    simp

/- Frames. -/
def lenB (l : List UInt8) : BitVec 32 := BitVec.ofNat 32 l.length
def headL (b : List UInt8) : List UInt8 := four (lenB b) ++ four (checkB (four (lenB b))) ++ four (checkB b)
def frameL (b : List UInt8) : List UInt8 := headL b ++ b
theorem headL_len (b : List UInt8) : (headL b).length = 12 := rfl
theorem frameL_len (b : List UInt8) : (frameL b).length = 12 + b.length := by simp [frameL, headL_len]

structure Fr where
  at_ : Nat
  body : List UInt8
  good : Bool
def Fr.stop (f : Fr) : Nat := f.at_ + f.body.length
def sub (s : List UInt8) (a b : Nat) : List UInt8 := (s.drop a).take (b - a)
def longF (s : List UInt8) (a : Nat) : Nat := numL (sub s a (a + 4))
def headOk (s : List UInt8) (a : Nat) : Prop := longF s a ≤ 65536 ∧ numL (sub s (a + 4) (a + 8)) = (checkB (sub s a (a + 4))).toNat
def headB (s : List UInt8) (a : Nat) : Bool := decide (longF s a ≤ 65536) && decide (numL (sub s (a + 4) (a + 8)) = (checkB (sub s a (a + 4))).toNat)
theorem headB_iff (s : List UInt8) (a : Nat) : headB s a = true ↔ headOk s a := by unfold headB headOk; simp
theorem headB_yes {s : List UInt8} {a : Nat} (h : headOk s a) : headB s a = true := (headB_iff s a).2 h
theorem headB_no {s : List UInt8} {a : Nat} (h : ¬ headOk s a) : ¬ headB s a = true := fun k => h ((headB_iff s a).1 k)
def there (s : List UInt8) (a : Nat) : Prop := 12 ≤ s.length - a ∧ headOk s a ∧ longF s a ≤ s.length - (a + 12)
def thereB (s : List UInt8) (a : Nat) : Bool := decide (12 ≤ s.length - a) && (headB s a && decide (longF s a ≤ s.length - (a + 12)))
theorem thereB_iff (s : List UInt8) (a : Nat) : thereB s a = true ↔ there s a := by unfold thereB there; rw [← headB_iff]; simp
theorem thereB_yes {s : List UInt8} {a : Nat} (h : there s a) : thereB s a = true := (thereB_iff s a).2 h
theorem thereB_no {s : List UInt8} {a : Nat} (h : ¬ there s a) : ¬ thereB s a = true := fun k => h ((thereB_iff s a).1 k)
theorem thereB_false {s : List UInt8} {a : Nat} (h : ¬ there s a) : thereB s a = false := by
  cases e : thereB s a with
  | true => exact absurd e (thereB_no h)
  | false => rfl
def bodyF (s : List UInt8) (a : Nat) : List UInt8 := sub s (a + 12) (a + 12 + longF s a)
def frF (s : List UInt8) (a : Nat) : Fr := ⟨a + 12, bodyF s a, decide ((checkB (bodyF s a)).toNat = numL (sub s (a + 8) (a + 12)))⟩
theorem sub_len (s : List UInt8) (a b : Nat) (h : b ≤ s.length) : (sub s a b).length = b - a := by
  unfold sub; simp; omega
theorem stop_frF (s : List UInt8) (a : Nat) (h : there s a) : (frF s a).stop = a + 12 + longF s a := by
  obtain ⟨h1, _, h3⟩ := h
  show a + 12 + (sub s (a + 12) (a + 12 + longF s a)).length = _
  rw [sub_len _ _ _ (by omega)]
  omega
theorem stop_le (s : List UInt8) (a : Nat) (h : there s a) : a + 12 ≤ (frF s a).stop ∧ (frF s a).stop ≤ s.length := by
  have e := stop_frF s a h
  obtain ⟨h1, _, h3⟩ := h
  omega
/- The frames from a place on. -/
def scanF (s : List UInt8) : Nat → Nat → List Fr
  | 0, _ => []
  | k + 1, a => if thereB s a then frF s a :: scanF s k (frF s a).stop else []
def scanL (s : List UInt8) (a : Nat) : List Fr := scanF s (s.length - a) a
theorem scanF_none (s : List UInt8) (a : Nat) (h : ¬ there s a) : ∀ j, scanF s j a = []
  | 0 => rfl
  | j + 1 => by simp only [scanF, if_neg (thereB_no h)]
theorem scanF_same (s : List UInt8) : ∀ (k m a : Nat), s.length - a ≤ k → s.length - a ≤ m → scanF s k a = scanF s m a
  | 0, m, a, h, _ => by
    have hn : ¬ there s a := fun ht => by have := ht.1; omega
    rw [scanF_none s a hn, scanF_none s a hn]
  | k + 1, m, a, h, hm => by
    by_cases ht : there s a
    · have h1 := stop_le s a ht
      have h2 := ht.1
      obtain ⟨m', rfl⟩ : ∃ m', m = m' + 1 := ⟨m - 1, by omega⟩
      simp only [scanF, if_pos (thereB_yes ht)]
      rw [scanF_same s k m' _ (by omega) (by omega)]
    · rw [scanF_none s a ht, scanF_none s a ht]
theorem scanF_more (s : List UInt8) (k a : Nat) (h : s.length - a ≤ k) : scanF s k a = scanF s (s.length - a) a := scanF_same s k _ a h (Nat.le_refl _)
theorem scanL_yes (s : List UInt8) (a : Nat) (h : there s a) : scanL s a = frF s a :: scanL s (frF s a).stop := by
  have h1 := stop_le s a h
  have h2 := h.1
  obtain ⟨m, hm⟩ : ∃ m, s.length - a = m + 1 := ⟨s.length - a - 1, by omega⟩
  unfold scanL
  rw [hm]
  simp only [scanF, if_pos (thereB_yes h)]
  rw [scanF_more s m _ (by omega)]
theorem scanL_no (s : List UInt8) (a : Nat) (h : ¬ there s a) : scanL s a = [] := scanF_none s a h _
def lastOf (l : List Fr) : Nat := (l.getLast?.map Fr.stop).getD 0
theorem lastOf_snoc (l : List Fr) (f : Fr) : lastOf (l ++ [f]) = f.stop := by simp [lastOf]
theorem check_nine : checkB [49, 50, 51, 52, 53, 54, 55, 56, 57] = 3421780262#32 := by decide +kernel
end Go.Proofs.YtgjalfcpfgbneaaGreatDoor.F
