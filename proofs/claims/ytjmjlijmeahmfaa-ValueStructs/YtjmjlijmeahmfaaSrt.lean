/- The order of names (slices.SortStableFunc with Struct's closure, up to 13 of them) and the place of a name (slices.IndexFunc with Get's): the library's contracts, laid in plain words. -/
import Derived.Test.YtjmjlijmeahmfaaCmp
import Derived.Test.YtjmjlijmeahmfaaIdx
import Derived.Shelf.SlSortCmp.Insertion
import Derived.Shelf.SlicesE.IndexFunc
namespace Go.Proofs.Ytjmjlijmeahmfaa
open Go.Shelf Go.RowKit Go.Lib Go.Sort
def insR : Go.Shelf.Ren := ⟨fun | 20 => 99 | n => n, fun | 22 => 87 | 24 => 3 | 25 => 84 | n => n, fun n => n⟩
theorem insL : Go.Proofs.SlLaysF.n20 Try.prog insR := {
  mixed := by kernel_rfl
  f20 := ⟨Try.f99.name, by kernel_rfl, Try.func99.trans (congrArg some (by kernel_rfl))⟩
  t0 := Try.underlying0
  a0 := Try.isAgg0
  z0 := Try.sizeOf0
  v0 := Try.zeroValue0
  t3 := Try.underlying3
  a3 := Try.isAgg3
  z3 := Try.sizeOf3
  v3 := Try.zeroValue3
  t4 := Try.underlying4
  a4 := Try.isAgg4
  z4 := Try.sizeOf4
  v4 := Try.zeroValue4
  t22 := Try.underlying87
  a22 := Try.isAgg87
  z22 := Try.sizeOf87
  v22 := Try.zeroValue87
  a24 := Try.isAgg3
  z24 := Try.sizeOf3
  t25 := Try.underlying84
  a25 := Try.isAgg84
  z25 := Try.sizeOf84
  v25 := Try.zeroValue84 }
def idxR : Go.Shelf.Ren := ⟨fun | 6 => 61 | n => n, fun | 22 => 23 | 23 => 9 | 25 => 44 | n => n, fun n => n⟩
theorem idxL : Go.Proofs.SlLaysH.n6 Try.prog idxR := {
  mixed := by kernel_rfl
  f6 := ⟨Try.f61.name, by kernel_rfl, Try.func61.trans (congrArg some (by kernel_rfl))⟩
  t0 := Try.underlying0
  a0 := Try.isAgg0
  z0 := Try.sizeOf0
  v0 := Try.zeroValue0
  t3 := Try.underlying3
  a3 := Try.isAgg3
  z3 := Try.sizeOf3
  v3 := Try.zeroValue3
  t4 := Try.underlying4
  a4 := Try.isAgg4
  z4 := Try.sizeOf4
  v4 := Try.zeroValue4
  t22 := Try.underlying23
  a22 := Try.isAgg23
  z22 := Try.sizeOf23
  v22 := Try.zeroValue23
  a23 := Try.isAgg9
  z23 := Try.sizeOf9
  t25 := Try.underlying44
  a25 := Try.isAgg44
  z25 := Try.sizeOf44
  v25 := Try.zeroValue44 }
set_option maxHeartbeats 2000000 in
theorem struct1 {q nc : Nat} {g : Nat → ByteArray} {b o z : Nat} {w : World} (i k : Nat) (hi : i < q) (hk : k < q) (hz : w.cell? ⟨z, 0, none⟩ = some (.slice (some ⟨b, o, none⟩) q nc)) (hn : ∀ i, i < q → w.cell? ⟨b, o + i, none⟩ = some (.string (g i))) :
    Calls Try.prog 56 #[.int .i64 (i : Int), .int .i64 (k : Int), .pointer (some ⟨z, 0, none⟩)] w fun r w' => r = .returned (.int .i64 (cmpB (g i) (g k))) ∧ ∃ q', w' = w.drewN q' := by
  have h1 := hn i hi
  have h2 := hn k hk
  have hi' : (i : Int) < (q : Int) := by omega
  have hk' : (k : Int) < (q : Int) := by omega
  clear hn
  have hcon := scmp (g i) (g k)
  generalize cmpB (g i) (g k) = r at hcon ⊢
  go_enter Try.func56, Try.ntmps56
  go_wp2
  go_quiet ((go_at_call 51; exact Calls.quiet_of_same (hcon _)))
  go_wp2
  go_ret
  exact ⟨rfl, _, rfl⟩
def encF (n : Nat) (i : Fin (n + 1)) : Value := .int .i64 (i.val : Int)
def cfF (g : Nat → ByteArray) (n : Nat) (i k : Fin (n + 1)) : Int := cmpB (g i.val) (g k.val)
def sortF (g : Nat → ByteArray) (n : Nat) (d : Array (Fin (n + 1))) : Array (Fin (n + 1)) := Sort.insertionSort (ltOf (cfF g n)) d 0 d.size
theorem sort_reads {q nc n : Nat} {g : Nat → ByteArray} {b o z blk : Nat} {w : World} (hnq : n + 1 ≤ q) (hz : w.cell? ⟨z, 0, none⟩ = some (.slice (some ⟨b, o, none⟩) q nc)) (hn : ∀ i, i < q → w.cell? ⟨b, o + i, none⟩ = some (.string (g i))) (hzb : z ≠ blk) (hbb : b ≠ blk) :
    CmpReads Try.prog 56 #[.pointer (some ⟨z, 0, none⟩)] (encF n) (cfF g n) blk 0 (n + 1) w := by
  intro m os dk hdk x y
  have hcell : ∀ a : Addr, a.block ≠ blk → ∀ v, w.cell? a = some v → (sortWorld (encF n) w blk 0 m dk os).cell? a = some v := fun a ha v hv => by
    have hl := block_lt hv
    unfold sortWorld
    rw [cell?_grow _ _ _ (by simp [putRow, mapBlock, Sort.ahead]; exact hl), cell?_putRow_other _ _ _ _ _ _ (Or.inl ha)]
    exact hv
  exact struct1 x.val y.val (by have := x.isLt; omega) (by have := y.isLt; omega) (hcell _ hzb _ hz) (fun i hi => hcell ⟨b, o + i, none⟩ hbb _ (hn i hi))
set_option maxHeartbeats 2000000 in
theorem sort87 {N cap : Nat} {A : Addr} {F : Value} {w : World} {X : Nat → World} (hN : N ≤ 13) (hcon : Calls Try.prog 99 #[.slice (some A) N cap, .int .i64 0, .int .i64 (N : Int), F] w fun e w' => e = .returned (.tuple #[]) ∧ ∃ k, w' = X k) :
    Calls Try.prog 87 #[.slice (some A) N cap, .int .i64 (N : Int), F] w fun e w' => e = .returned (.tuple #[]) ∧ ∃ k, w' = X k := by
  have h20 : ¬ ((20 : Int) ≤ (N : Int)) := by omega
  have h21 : ¬ ((20 : Int) < (N : Int)) := by omega
  go_enter Try.func87, Try.ntmps87
  go_wp2
  refine wp_loop_rounds 1 ?_
  rw [rounds_succ]
  go_wp2_with (first | (go_at_call 99; refine hcon.mono ?_; rintro e w' ⟨rfl, k, rfl⟩))
  refine wp_loop_rounds 1 ?_
  rw [rounds_succ]
  go_wp2
  go_end0
  exact ⟨rfl, k, rfl⟩
set_option maxHeartbeats 2000000 in
theorem sort55 {N cap : Nat} {A : Addr} {F : Value} {w : World} {X : Nat → World} (hN : N ≤ 13) (hcon : Calls Try.prog 99 #[.slice (some A) N cap, .int .i64 0, .int .i64 (N : Int), F] w fun e w' => e = .returned (.tuple #[]) ∧ ∃ k, w' = X k) :
    Calls Try.prog 55 #[.slice (some A) N cap, F] w fun e w' => e = .returned (.tuple #[]) ∧ ∃ k, w' = X k := by
  have h87 := sort87 hN hcon
  clear hcon
  go_enter Try.func55, Try.ntmps55
  go_wp2_with (first | (go_at_call 87; refine h87.mono ?_; rintro e w' ⟨rfl, k, rfl⟩))
  go_end0
  exact ⟨rfl, k, rfl⟩
theorem sort_any {q nc n : Nat} {g : Nat → ByteArray} {b o z blk cap : Nat} {w : World} (hn12 : n + 1 ≤ 13) (hnq : n + 1 ≤ q) (hz : w.cell? ⟨z, 0, none⟩ = some (.slice (some ⟨b, o, none⟩) q nc)) (hn : ∀ i, i < q → w.cell? ⟨b, o + i, none⟩ = some (.string (g i))) (hzb : z ≠ blk) (hbb : b ≠ blk)
    (d : Array (Fin (n + 1))) (hd : d.size = n + 1) (hH : Holds (encF n) w blk 0 d) :
    Calls Try.prog 55 #[.slice (some ⟨blk, 0, none⟩) (n + 1) cap, .func (.func 56) #[] #[.pointer (some ⟨z, 0, none⟩)]] w fun e w' => e = .returned (.tuple #[]) ∧ ∃ k, w' = (putRow (encF n) w blk 0 (sortF g n d)).drewN k := by
  have eg : ∀ args w, (callFunc 56 args).run Try.prog w = .ok (.enter 56 args) w := enters_of Try.func56 (by kernel_rfl) rfl
  have hcon := Any.insertionSortCmpFunc_one insL (encF n) (fun _ => rfl) (cfF g n) 56 #[.pointer (some ⟨z, 0, none⟩)] blk 0 cap 0 d.size d w eg (by rw [hd]; exact sort_reads hnq hz hn hzb hbb) hH (Nat.zero_le _) (Nat.le_refl _) (by omega)
  change Calls Try.prog 99 _ _ (fun e w' => e = .returned (.tuple #[]) ∧ ∃ k, w' = (putRow (encF n) w blk 0 (sortF g n d)).drewN k) at hcon
  rw [hd] at hcon
  exact sort55 hn12 hcon
end Go.Proofs.Ytjmjlijmeahmfaa
