/- The document's bytes of a number (Uint): of any number the call returns the bytes that the plain facts have, and nothing that was there has changed. The numbers that may be below 0, in bytes (enc.Int and the document's). Texts and yes or no, in bytes (enc.Text, enc.Bool and the document's). The order of texts and of numbers (strings.Compare, cmp.Compare). The place of a name (slices.IndexFunc with the closure of Get). The order of names (slices.SortStableFunc with Struct's closure, up to 12 of them) and the place of a name (slices.IndexFunc with Get's): the library's contracts, laid in plain words. -/
import Derived.Test.YtfcenidepkjdcaaDoorXae
import Derived.WalkKit
import Derived.WalkSpells
import Derived.WalkLawsBesides
import Derived.Deep.QuietTactic
import Derived.BigQuiet
import Derived.Deep.RegionWith
import Derived.Lib.Strings
import Derived.Test.YtfcenidepkjdcaaDoorXac
import Derived.Lib.Bytealg
import Derived.Laws.Externs
import Derived.BigGuardPart
import Derived.Test.YtfcenidepkjdcaaDoorXaa
import Derived.Shelf.SlSortCmp.Insertion
import Derived.Shelf.SlicesE.IndexFunc
namespace Go.Proofs.YtfcenidepkjdcaaDoor.V
open Go.RowKit
set_option maxRecDepth 100000 in
theorem conv1w (W : World) (g : Nat) (b : UInt8) (v : Int) (hv : v = (b.toNat : Int)) (hc : W.cell? ⟨g, 0, none⟩ = some (.int .u8 v)) : (convert 88 9 (.slice (some ⟨g, 0, none⟩) 1 1)).run Tryd.prog W = .ok (.string ⟨#[b]⟩) W := by
  refine run_convert_bytes_back (P := Tryd.prog) W 88 9 5 ⟨g, 0, none⟩ 1 [b] Tryd.underlying88 Tryd.underlying5 Tryd.underlying9 (fun j hj => ?_)
  obtain rfl : j = 0 := by simp at hj; omega
  have e : (⟨g, 0, none⟩ : Addr).add 0 = ⟨g, 0, none⟩ := by unfold Addr.add; split <;> simp_all
  rw [e, hc, hv]; rfl
set_option maxRecDepth 100000 in
theorem conv1 (W : World) (b : UInt8) (t : TypeId) (v : Int) (hv : v = (b.toNat : Int)) : (convert 88 9 (.slice (some ⟨W.heap.size, 0, none⟩) 1 1)).run Tryd.prog (W.alloc (.cells #[.int .u8 v] t)) = .ok (.string ⟨#[b]⟩) (W.alloc (.cells #[.int .u8 v] t)) :=
  conv1w _ _ b v hv (cell_of_row _ _ 0 _ _ _ (heap_alloc_new _ _))
end Go.Proofs.YtfcenidepkjdcaaDoor.V
namespace Go.Proofs.YtfcenidepkjdcaaDoor.V
open Go.RowKit
def zig (n : Int) : Nat := if n < 0 then (2 * (-(n + 1)) + 1).toNat else (2 * n).toNat
set_option maxRecDepth 100000 in
theorem zig_lt {n : Int} (h0 : -9223372036854775808 ≤ n) (h1 : n < 9223372036854775808) : zig n < 18446744073709551616 := by
  unfold zig; split <;> omega
set_option maxRecDepth 100000 in
theorem zag_zig (n : Int) : zag (zig n) = n := by
  unfold zag zig; split <;> split <;> omega
set_option maxRecDepth 100000 in
theorem zig_inj {n m : Int} (h : zig n = zig m) : n = m := by
  rw [← zag_zig n, h, zag_zig]
set_option maxRecDepth 100000 in
set_option maxHeartbeats 1000000 in
theorem eint_any (n : Int) (h0 : -9223372036854775808 ≤ n) (h1 : n < 9223372036854775808) (w : World) :
    Calls Tryd.prog 76 #[.int .i64 n] w fun e w' => e = .returned (.string ⟨(put (zig n)).toArray⟩) ∧ Below w.heap.size w w' := by
  have hpu := fun (W : World) => put_any (zig n) (zig_lt h0 h1) W
  obtain ⟨x, hx⟩ : ∃ x : ByteArray, (⟨(put (zig n)).toArray⟩ : ByteArray) = x := ⟨_, rfl⟩
  rw [hx] at hpu ⊢
  clear hx
  by_cases h : n < 0
  · have hz : (zig n : Int) = 2 * (-(n + 1)) + 1 := by unfold zig; rw [if_pos h]; omega
    rw [hz] at hpu
    clear hz
    have e1 : IntKind.i64.wrap (n + 1) = n + 1 := by rw [IntKind.wrap_i64]; omega
    have e2 : IntKind.i64.wrap (-(n + 1)) = -(n + 1) := by rw [IntKind.wrap_i64]; omega
    have e3 : IntKind.u64.wrap (-(n + 1)) = -(n + 1) := by rw [IntKind.wrap_u64]; omega
    have e4 : IntKind.u64.wrap (2 * (-(n + 1))) = 2 * (-(n + 1)) := by rw [IntKind.wrap_u64]; omega
    have e5 : IntKind.u64.wrap (2 * (-(n + 1)) + 1) = 2 * (-(n + 1)) + 1 := by rw [IntKind.wrap_u64]; omega
    go_enter Tryd.func76, Tryd.ntmps76
    go_wp2_with fail
    refine (hpu _).mono ?_
    rintro e w1 ⟨rfl, hb1⟩
    go_wp2
    go_ret
    exact ⟨rfl, hb1⟩
  · have hz : (zig n : Int) = 2 * n := by unfold zig; rw [if_neg h]; omega
    rw [hz] at hpu
    clear hz
    have e3 : IntKind.u64.wrap n = n := by rw [IntKind.wrap_u64]; omega
    have e4 : IntKind.u64.wrap (2 * n) = 2 * n := by rw [IntKind.wrap_u64]; omega
    go_enter Tryd.func76, Tryd.ntmps76
    go_wp2_with fail
    refine (hpu _).mono ?_
    rintro e w1 ⟨rfl, hb1⟩
    go_wp2
    go_ret
    exact ⟨rfl, hb1⟩
end Go.Proofs.YtfcenidepkjdcaaDoor.V
namespace Go.Proofs.YtfcenidepkjdcaaDoor.V
open Go.RowKit
def textB (t : ByteArray) : ByteArray := ⟨(put t.size).toArray⟩ ++ t
def boolB (b : Bool) : ByteArray := if b then ⟨#[1]⟩ else ⟨#[0]⟩
set_option maxRecDepth 100000 in
theorem put_size (n : Nat) : (⟨(put n).toArray⟩ : ByteArray).size = (put n).length := by show (put n).toArray.size = _; simp
set_option maxRecDepth 100000 in
set_option maxHeartbeats 400000 in
theorem etext_any (t : ByteArray) (ht : t.size ≤ 4294967296) (w : World) : Calls Tryd.prog 77 #[.string t] w fun e w' => e = .returned (.string (textB t)) ∧ Below w.heap.size w w' := by
  have hpu := fun W => put_any t.size (by omega) W
  have hl := put_len10 (n := t.size) (by omega)
  have hz := put_size t.size
  have hT : textB t = ⟨(put t.size).toArray⟩ ++ t := rfl
  rw [hT]
  obtain ⟨x, hx⟩ : ∃ x : ByteArray, (⟨(put t.size).toArray⟩ : ByteArray) = x := ⟨_, rfl⟩
  rw [hx] at hpu hz ⊢
  have hz2 : x.size + t.size ≤ 9223372036854775807 := by omega
  have hw : IntKind.u64.wrap (t.size : Int) = (t.size : Int) := by rw [IntKind.wrap_u64]; omega
  clear hx hT hz hl
  go_enter Tryd.func77, Tryd.ntmps77
  go_wp2_with fail
  refine (hpu _).mono ?_
  rintro e w1 ⟨rfl, hb1⟩
  go_wp2
  go_ret
  exact ⟨rfl, hb1⟩
set_option maxRecDepth 100000 in
set_option maxHeartbeats 400000 in
theorem ebool_any (b : Bool) (w : World) : Calls Tryd.prog 75 #[.bool b] w fun e w' => e = .returned (.string (boolB b)) ∧ w' = w := by
  cases b
  all_goals
    go_enter Tryd.func75, Tryd.ntmps75
    go_wp2
    go_ret
    exact ⟨rfl, rfl⟩
set_option maxRecDepth 100000 in
theorem boolB_size (b : Bool) : (boolB b).size = 1 := by cases b <;> rfl
end Go.Proofs.YtfcenidepkjdcaaDoor.V
namespace Go.Proofs.YtfcenidepkjdcaaDoor.V
open Go.RowKit
def cmpI (x y : Int) : Int := if x < y then -1 else if y < x then 1 else 0
def cmpB (a b : ByteArray) : Int := Lib.compareBytes a.data.toList b.data.toList
set_option maxRecDepth 100000 in
set_option maxHeartbeats 1000000 in
theorem scmp0 (a b : ByteArray) (w : World) : Calls Tryd.prog 52 #[.string a, .string b] w fun e w' => e = .returned (.int .i64 (cmpB a b)) ∧ w' = w := by
  have h : (callFunc 66 #[.string a, .string b]).run Tryd.prog w = .ok (.value (.int .i64 (cmpB a b))) w := by
    rw [run_callFunc_extern Tryd.func66 (by kernel_rfl) (by kernel_rfl) (by kernel_rfl) (e := Extern.BytealgCompare.compare) (by kernel_rfl), Lib.run_compareString]
    rfl
  go_enter Tryd.func52, Tryd.ntmps52
  go_wp2
  go_ret
  exact ⟨rfl, rfl⟩
set_option maxRecDepth 100000 in
set_option maxHeartbeats 1000000 in
theorem scmp (a b : ByteArray) (w : World) : Calls Tryd.prog 37 #[.string a, .string b] w fun e w' => e = .returned (.int .i64 (cmpB a b)) ∧ w' = w := by
  go_enter Tryd.func37, Tryd.ntmps37
  go_wp2_with fail
  refine (scmp0 a b _).mono ?_
  rintro e w ⟨rfl, rfl⟩
  go_wp2
  go_ret
  exact ⟨rfl, rfl⟩
def cmpF (q uq : Nat) (g ug : Nat → ByteArray) (C : Nat → Int) (i : Nat) : Int := if i < min q uq ∧ (g i).data.toList ≠ (ug i).data.toList then cmpB (g i) (ug i) else C i
def cmpT : Tr → Tr → Int
  | .no, _ => 0
  | .mk k b n s m f q g, u =>
    if k = u.k then
      (if k = 1 then cmpB (boolB b) (boolB u.b) else if k = 2 then cmpI n u.n else if k = 3 ∨ k = 4 then cmpB s u.s
       else if k = 5 ∨ k = 6 then (if fe (min m u.m) (cmpF q u.q g u.g (fun i => cmpT (f i) (u.f i))) = 0 then cmpI m u.m else fe (min m u.m) (cmpF q u.q g u.g (fun i => cmpT (f i) (u.f i)))) else 0)
    else cmpI k u.k
end Go.Proofs.YtfcenidepkjdcaaDoor.V
namespace Go.Proofs.YtfcenidepkjdcaaDoor.V
open Go.RowKit
set_option maxRecDepth 100000 in
set_option maxHeartbeats 1000000 in
theorem get1 (n s : ByteArray) (z : Nat) (w : World) (hz : w.cell? ⟨z, 0, none⟩ = some (.string s)) : Calls Tryd.prog 61 #[.string n, .pointer (some ⟨z, 0, none⟩)] w fun r w' => r = .returned (.bool (n.toList == s.toList)) ∧ w' = w := by
  go_enter Tryd.func61, Tryd.ntmps61
  go_wp2
  go_ret
  exact ⟨rfl, rfl⟩
end Go.Proofs.YtfcenidepkjdcaaDoor.V
namespace Go.Proofs.YtfcenidepkjdcaaDoor.V
open Go.Shelf Go.RowKit Go.Lib Go.Sort
def insR : Go.Shelf.Ren := ⟨fun | 20 => 64 | n => n, fun | 22 => 66 | 24 => 3 | 25 => 69 | n => n, fun n => n⟩
set_option maxRecDepth 100000 in
theorem insL : Go.Proofs.SlLaysF.n20 Tryd.prog insR := {
  mixed := by kernel_rfl
  f20 := ⟨Tryd.f64.name, by kernel_rfl, Tryd.func64.trans (congrArg some (by kernel_rfl))⟩
  t0 := Tryd.underlying0
  a0 := Tryd.isAgg0
  z0 := Tryd.sizeOf0
  v0 := Tryd.zeroValue0
  t3 := Tryd.underlying3
  a3 := Tryd.isAgg3
  z3 := Tryd.sizeOf3
  v3 := Tryd.zeroValue3
  t4 := Tryd.underlying4
  a4 := Tryd.isAgg4
  z4 := Tryd.sizeOf4
  v4 := Tryd.zeroValue4
  t22 := Tryd.underlying66
  a22 := Tryd.isAgg66
  z22 := Tryd.sizeOf66
  v22 := Tryd.zeroValue66
  a24 := Tryd.isAgg3
  z24 := Tryd.sizeOf3
  t25 := Tryd.underlying69
  a25 := Tryd.isAgg69
  z25 := Tryd.sizeOf69
  v25 := Tryd.zeroValue69 }
def idxR : Go.Shelf.Ren := ⟨fun | 6 => 60 | n => n, fun | 22 => 27 | 23 => 9 | 25 => 97 | n => n, fun n => n⟩
set_option maxRecDepth 100000 in
theorem idxL : Go.Proofs.SlLaysH.n6 Tryd.prog idxR := {
  mixed := by kernel_rfl
  f6 := ⟨Tryd.f60.name, by kernel_rfl, Tryd.func60.trans (congrArg some (by kernel_rfl))⟩
  t0 := Tryd.underlying0
  a0 := Tryd.isAgg0
  z0 := Tryd.sizeOf0
  v0 := Tryd.zeroValue0
  t3 := Tryd.underlying3
  a3 := Tryd.isAgg3
  z3 := Tryd.sizeOf3
  v3 := Tryd.zeroValue3
  t4 := Tryd.underlying4
  a4 := Tryd.isAgg4
  z4 := Tryd.sizeOf4
  v4 := Tryd.zeroValue4
  t22 := Tryd.underlying27
  a22 := Tryd.isAgg27
  z22 := Tryd.sizeOf27
  v22 := Tryd.zeroValue27
  a23 := Tryd.isAgg9
  z23 := Tryd.sizeOf9
  t25 := Tryd.underlying97
  a25 := Tryd.isAgg97
  z25 := Tryd.sizeOf97
  v25 := Tryd.zeroValue97 }
set_option maxRecDepth 100000 in
set_option maxHeartbeats 2000000 in
theorem struct1 {q nc : Nat} {g : Nat → ByteArray} {b o z : Nat} {w : World} (i k : Nat) (hi : i < q) (hk : k < q) (hz : w.cell? ⟨z, 0, none⟩ = some (.slice (some ⟨b, o, none⟩) q nc)) (hn : ∀ i, i < q → w.cell? ⟨b, o + i, none⟩ = some (.string (g i))) :
    Calls Tryd.prog 36 #[.int .i64 (i : Int), .int .i64 (k : Int), .pointer (some ⟨z, 0, none⟩)] w fun r w' => r = .returned (.int .i64 (cmpB (g i) (g k))) ∧ ∃ q', w' = w.drewN q' := by
  have h1 := hn i hi
  have h2 := hn k hk
  have hi' : (i : Int) < (q : Int) := by omega
  have hk' : (k : Int) < (q : Int) := by omega
  clear hn
  have hcon := scmp (g i) (g k)
  generalize cmpB (g i) (g k) = r at hcon ⊢
  go_enter Tryd.func36, Tryd.ntmps36
  go_wp2
  go_quiet ((go_at_call 37; exact Calls.quiet_of_same (hcon _)))
  go_wp2
  go_ret
  exact ⟨rfl, _, rfl⟩
def encF (n : Nat) (i : Fin (n + 1)) : Value := .int .i64 (i.val : Int)
def cfF (g : Nat → ByteArray) (n : Nat) (i k : Fin (n + 1)) : Int := cmpB (g i.val) (g k.val)
def sortF (g : Nat → ByteArray) (n : Nat) (d : Array (Fin (n + 1))) : Array (Fin (n + 1)) := Sort.insertionSort (ltOf (cfF g n)) d 0 d.size
set_option maxRecDepth 100000 in
theorem sort_reads {q nc n : Nat} {g : Nat → ByteArray} {b o z blk : Nat} {w : World} (hnq : n + 1 ≤ q) (hz : w.cell? ⟨z, 0, none⟩ = some (.slice (some ⟨b, o, none⟩) q nc)) (hn : ∀ i, i < q → w.cell? ⟨b, o + i, none⟩ = some (.string (g i))) (hzb : z ≠ blk) (hbb : b ≠ blk) :
    CmpReads Tryd.prog 36 #[.pointer (some ⟨z, 0, none⟩)] (encF n) (cfF g n) blk 0 (n + 1) w := by
  intro m os dk hdk x y
  have hcell : ∀ a : Addr, a.block ≠ blk → ∀ v, w.cell? a = some v → (sortWorld (encF n) w blk 0 m dk os).cell? a = some v := fun a ha v hv => by
    have hl := block_lt hv
    unfold sortWorld
    rw [cell?_grow _ _ _ (by simp [putRow, mapBlock, Sort.ahead]; exact hl), cell?_putRow_other _ _ _ _ _ _ (Or.inl ha)]
    exact hv
  exact struct1 x.val y.val (by have := x.isLt; omega) (by have := y.isLt; omega) (hcell _ hzb _ hz) (fun i hi => hcell ⟨b, o + i, none⟩ hbb _ (hn i hi))
set_option maxRecDepth 100000 in
set_option maxHeartbeats 2000000 in
theorem sort87 {N cap : Nat} {A : Addr} {F : Value} {w : World} {X : Nat → World} (hN : N ≤ 12) (hcon : Calls Tryd.prog 64 #[.slice (some A) N cap, .int .i64 0, .int .i64 (N : Int), F] w fun e w' => e = .returned (.tuple #[]) ∧ ∃ k, w' = X k) :
    Calls Tryd.prog 51 #[.slice (some A) N cap, .int .i64 (N : Int), F] w fun e w' => e = .returned (.tuple #[]) ∧ ∃ k, w' = X k := by
  have h20 : ¬ ((20 : Int) ≤ (N : Int)) := by omega
  have h21 : ¬ ((20 : Int) < (N : Int)) := by omega
  go_enter Tryd.func51, Tryd.ntmps51
  go_wp2
  refine wp_loop_rounds 1 ?_
  rw [rounds_succ]
  go_wp2_with (first | (go_at_call 64; refine hcon.mono ?_; rintro e w' ⟨rfl, k, rfl⟩))
  refine wp_loop_rounds 1 ?_
  rw [rounds_succ]
  go_wp2
  go_end0
  exact ⟨rfl, k, rfl⟩
set_option maxRecDepth 100000 in
set_option maxHeartbeats 2000000 in
theorem sort55 {N cap : Nat} {A : Addr} {F : Value} {w : World} {X : Nat → World} (hN : N ≤ 12) (hcon : Calls Tryd.prog 64 #[.slice (some A) N cap, .int .i64 0, .int .i64 (N : Int), F] w fun e w' => e = .returned (.tuple #[]) ∧ ∃ k, w' = X k) :
    Calls Tryd.prog 35 #[.slice (some A) N cap, F] w fun e w' => e = .returned (.tuple #[]) ∧ ∃ k, w' = X k := by
  have h87 := sort87 hN hcon
  clear hcon
  go_enter Tryd.func35, Tryd.ntmps35
  go_wp2_with (first | (go_at_call 51; refine h87.mono ?_; rintro e w' ⟨rfl, k, rfl⟩))
  go_end0
  exact ⟨rfl, k, rfl⟩
set_option maxRecDepth 100000 in
theorem sort_any {q nc n : Nat} {g : Nat → ByteArray} {b o z blk cap : Nat} {w : World} (hn12 : n + 1 ≤ 12) (hnq : n + 1 ≤ q) (hz : w.cell? ⟨z, 0, none⟩ = some (.slice (some ⟨b, o, none⟩) q nc)) (hn : ∀ i, i < q → w.cell? ⟨b, o + i, none⟩ = some (.string (g i))) (hzb : z ≠ blk) (hbb : b ≠ blk)
    (d : Array (Fin (n + 1))) (hd : d.size = n + 1) (hH : Holds (encF n) w blk 0 d) :
    Calls Tryd.prog 35 #[.slice (some ⟨blk, 0, none⟩) (n + 1) cap, .func (.func 36) #[] #[.pointer (some ⟨z, 0, none⟩)]] w fun e w' => e = .returned (.tuple #[]) ∧ ∃ k, w' = (putRow (encF n) w blk 0 (sortF g n d)).drewN k := by
  have eg : ∀ args w, (callFunc 36 args).run Tryd.prog w = .ok (.enter 36 args) w := enters_of Tryd.func36 (by kernel_rfl) rfl
  have hcon := Any.insertionSortCmpFunc_one insL (encF n) (fun _ => rfl) (cfF g n) 36 #[.pointer (some ⟨z, 0, none⟩)] blk 0 cap 0 d.size d w eg (by rw [hd]; exact sort_reads hnq hz hn hzb hbb) hH (Nat.zero_le _) (Nat.le_refl _) (by omega)
  change Calls Tryd.prog 64 _ _ (fun e w' => e = .returned (.tuple #[]) ∧ ∃ k, w' = (putRow (encF n) w blk 0 (sortF g n d)).drewN k) at hcon
  rw [hd] at hcon
  exact sort55 hn12 hcon
end Go.Proofs.YtfcenidepkjdcaaDoor.V
