/- Plain facts about words of 32 bits: how the model's integer operations on uint32 read as operations on 32 bits, and SHA-256's block function written over such words. No condition. -/
import Derived.WalkKit
namespace Go.Proofs.YtaocbkloafhmeaaDoor
open Go

def n32 (x : BitVec 32) : Int := (x.toNat : Int)

theorem n32_nn (x : BitVec 32) : 0 ≤ n32 x := by unfold n32; omega
theorem n32_lt (x : BitVec 32) : n32 x < 4294967296 := by
  unfold n32; have := x.isLt; omega
theorem n32_ofInt (x : BitVec 32) : BitVec.ofInt 32 (n32 x) = x := by
  unfold n32; simp
theorem n32_wrap (x : BitVec 32) : IntKind.u32.wrap (x.toNat : Int) = n32 x := by
  have := x.isLt
  rw [IntKind.wrap_u32']; unfold n32; omega
theorem n32_and (x y : BitVec 32) : bits BinOp.and IntKind.u32 (n32 x) (n32 y) = n32 (x &&& y) := by
  show IntKind.u32.wrap ((BitVec.ofInt 32 (n32 x) &&& BitVec.ofInt 32 (n32 y)).toNat : Int) = _
  rw [n32_ofInt, n32_ofInt, n32_wrap]
theorem n32_or (x y : BitVec 32) : bits BinOp.or IntKind.u32 (n32 x) (n32 y) = n32 (x ||| y) := by
  show IntKind.u32.wrap ((BitVec.ofInt 32 (n32 x) ||| BitVec.ofInt 32 (n32 y)).toNat : Int) = _
  rw [n32_ofInt, n32_ofInt, n32_wrap]
theorem n32_xor (x y : BitVec 32) : bits BinOp.xor IntKind.u32 (n32 x) (n32 y) = n32 (x ^^^ y) := by
  show IntKind.u32.wrap ((BitVec.ofInt 32 (n32 x) ^^^ BitVec.ofInt 32 (n32 y)).toNat : Int) = _
  rw [n32_ofInt, n32_ofInt, n32_wrap]
theorem n32_not (x : BitVec 32) : bits BinOp.xor IntKind.u32 IntKind.u32.max (n32 x) = n32 (~~~x) := by
  show IntKind.u32.wrap ((BitVec.ofInt 32 (2 ^ 32 - 1) ^^^ BitVec.ofInt 32 (n32 x)).toNat : Int) = _
  rw [n32_ofInt, n32_wrap]
  have : BitVec.ofInt 32 (2 ^ 32 - 1) = BitVec.allOnes 32 := by decide
  rw [this, BitVec.allOnes_xor]
theorem n32_add (x y : BitVec 32) : (n32 x + n32 y) % 4294967296 = n32 (x + y) := by
  unfold n32; rw [BitVec.toNat_add]; omega
theorem n32_sub (x : BitVec 32) : (4294967295 - n32 x) = n32 (~~~x) := by
  unfold n32; rw [BitVec.toNat_not]; have := x.isLt; omega
theorem n32_shr (x : BitVec 32) (k : Nat) : n32 x / (2 ^ k : Nat) = n32 (x >>> k) := by
  unfold n32; rw [BitVec.toNat_ushiftRight, Nat.shiftRight_eq_div_pow]; norm_cast
theorem n32_shl (x : BitVec 32) (k : Nat) : n32 x * (2 ^ k : Nat) % 4294967296 = n32 (x <<< k) := by
  unfold n32; rw [BitVec.toNat_shiftLeft, Nat.shiftLeft_eq, Int.natCast_emod, Int.natCast_mul]; rfl

def rotr (x : BitVec 32) (k : Nat) : BitVec 32 := (x >>> k) ||| (x <<< (32 - k))
def stirB (x : BitVec 32) (a b c : Nat) : BitVec 32 := rotr x a ^^^ rotr x b ^^^ rotr x c
def shiB (x : BitVec 32) (a b c : Nat) : BitVec 32 := rotr x a ^^^ rotr x b ^^^ (x >>> c)
def chB (x y z : BitVec 32) : BitVec 32 := (x &&& y) ^^^ (~~~x &&& z)
def majB (x y z : BitVec 32) : BitVec 32 := (x &&& y) ^^^ (x &&& z) ^^^ (y &&& z)
theorem ch_or (x y z : BitVec 32) : (x &&& y) ||| (~~~x &&& z) = chB x y z := by
  unfold chB
  ext i hi
  simp
  cases x[i] <;> cases y[i] <;> cases z[i] <;> rfl
theorem maj_or (x y z : BitVec 32) : ((x &&& y) ||| (x &&& z)) ||| (y &&& z) = majB x y z := by
  unfold majB
  ext i hi
  simp
  cases x[i] <;> cases y[i] <;> cases z[i] <;> rfl

structure St where
  a : BitVec 32
  b : BitVec 32
  c : BitVec 32
  d : BitVec 32
  e : BitVec 32
  f : BitVec 32
  g : BitVec 32
  k : BitVec 32

def tB (K W : BitVec 32) (s : St) : BitVec 32 := s.k + stirB s.e 6 11 25 + chB s.e s.f s.g + K + W
def uB (s : St) : BitVec 32 := stirB s.a 2 13 22 + majB s.a s.b s.c
def stepB (K W : BitVec 32) (s : St) : St := ⟨tB K W s + uB s, s.a, s.b, s.c, s.d + tB K W s, s.e, s.f, s.g⟩
def roundsB (Ks Ws : List (BitVec 32)) (s : St) : Nat → St
  | 0 => s
  | n + 1 => stepB (Ks.getD n 0) (Ws.getD n 0) (roundsB Ks Ws s n)
def addSt (s t : St) : St := ⟨s.a + t.a, s.b + t.b, s.c + t.c, s.d + t.d, s.e + t.e, s.f + t.f, s.g + t.g, s.k + t.k⟩

def saltsB : List (BitVec 32) := [1116352408#32, 1899447441#32, 3049323471#32, 3921009573#32, 961987163#32, 1508970993#32, 2453635748#32, 2870763221#32, 3624381080#32, 310598401#32, 607225278#32, 1426881987#32, 1925078388#32, 2162078206#32, 2614888103#32, 3248222580#32, 3835390401#32, 4022224774#32, 264347078#32, 604807628#32, 770255983#32, 1249150122#32, 1555081692#32, 1996064986#32, 2554220882#32, 2821834349#32, 2952996808#32, 3210313671#32, 3336571891#32, 3584528711#32, 113926993#32, 338241895#32, 666307205#32, 773529912#32, 1294757372#32, 1396182291#32, 1695183700#32, 1986661051#32, 2177026350#32, 2456956037#32, 2730485921#32, 2820302411#32, 3259730800#32, 3345764771#32, 3516065817#32, 3600352804#32, 4094571909#32, 275423344#32, 430227734#32, 506948616#32, 659060556#32, 883997877#32, 958139571#32, 1322822218#32, 1537002063#32, 1747873779#32, 1955562222#32, 2024104815#32, 2227730452#32, 2361852424#32, 2428436474#32, 2756734187#32, 3204031479#32, 3329325298#32]

def nextW (l : List (BitVec 32)) : BitVec 32 := l.getD (l.length - 16) 0 + shiB (l.getD (l.length - 15) 0) 7 18 3 + l.getD (l.length - 7) 0 + shiB (l.getD (l.length - 2) 0) 17 19 10
def extW (l : List (BitVec 32)) : Nat → List (BitVec 32)
  | 0 => l
  | n + 1 => extW l n ++ [nextW (extW l n)]
def byteB (s : List UInt8) (i : Nat) : BitVec 32 := BitVec.ofNat 32 (s.getD i 0).toNat
def wordB (s : List UInt8) (i : Nat) : BitVec 32 := byteB s (4 * i) <<< 24 ||| byteB s (4 * i + 1) <<< 16 ||| byteB s (4 * i + 2) <<< 8 ||| byteB s (4 * i + 3)
def wordsB (s : List UInt8) : Nat → List (BitVec 32)
  | 0 => []
  | n + 1 => wordsB s n ++ [wordB s n]
def schedB (s : List UInt8) : List (BitVec 32) := extW (wordsB s 16) 48
def mixB (h : St) (s : List UInt8) : St := if s.length = 64 then addSt h (roundsB saltsB (schedB s) h 64) else h
def startB : St := ⟨1779033703#32, 3144134277#32, 1013904242#32, 2773480762#32, 1359893119#32, 2600822924#32, 528734635#32, 1541459225#32⟩

theorem extW_len (l : List (BitVec 32)) (n : Nat) : (extW l n).length = l.length + n := by
  induction n with
  | zero => rfl
  | succ n ih => simp [extW, ih]; omega
theorem wordsB_len (s : List UInt8) (n : Nat) : (wordsB s n).length = n := by
  induction n with
  | zero => rfl
  | succ n ih => simp [wordsB, ih]

end Go.Proofs.YtaocbkloafhmeaaDoor
