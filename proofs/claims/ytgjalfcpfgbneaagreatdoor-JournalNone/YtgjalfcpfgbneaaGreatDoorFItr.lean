/- The frames of a text from the front on, handed to a loop's body one behind the other (All and its function): for every body that keeps what the function holds of its own. -/
import Derived.Test.YtgjalfcpfgbneaaGreatDoorFFat
import Derived.Test.YtgjalfcpfgbneaaGreatDoorFRng
import Derived.RangeFuncBound
import Derived.RangeFuncCalls
import Derived.Shelf.Abstract
import Derived.Shelf.RegionOpen
import Derived.OwnWalkIn
import Derived.TacticsInMore
import Derived.LoopNIn
import Derived.LoopIn
namespace Go.Proofs.YtgjalfcpfgbneaaGreatDoor.F
open Go Go.RowKit Go.Shelf
attribute [local go_sem] Oper.semAt_some

set_option maxHeartbeats 400000 in
theorem all_any (s : ByteArray) (w : World) :
    Calls Tryz.prog 76 #[.string s] w fun e w' => e = .returned (.func (.func 94) #[] #[.pointer (some ⟨w.heap.size, 0, none⟩)]) ∧ w' = w.alloc (.cells #[.string s] 9) := by
  go_enter Tryz.func76, Tryz.ntmps76
  go_wp2
  go_ret
  exact ⟨rfl, rfl⟩
def frA (x : Fr) : Value := .agg #[.int .i64 (x.at_ : Nat), .string ⟨x.body.toArray⟩, .bool x.good]
def frR (x : Fr) : Array Value := #[.int .i64 (x.at_ : Nat), .string ⟨x.body.toArray⟩, .bool x.good]
def boolOf : Value → Bool | .bool b => b | _ => false
def muF (X sz : Nat) (v : Value) (W : World) : Nat := if boolOf v then sz + 1 - (intOf ((W.cell? ⟨X, 0, none⟩).getD undef)).toNat else 0
def valOf (s : List UInt8) (a : Nat) : Fr := if thereB s a then frF s a else ⟨0, [], false⟩
theorem fatV_eq (s : List UInt8) (a : Nat) : fatV s a = .tuple #[.agg (frR (valOf s a)), .bool (thereB s a)] := by
  unfold valOf
  by_cases h : there s a
  · rw [fatV_yes h, if_pos (thereB_yes h), thereB_yes h]; rfl
  · rw [fatV_no h, if_neg (thereB_no h), thereB_false h]; rfl
abbrev set3 (w : World) (X : Nat) (a : Int) (t : ByteArray) (g : Bool) : World := ((w.setCell ⟨X, 0, none⟩ (.int .i64 a)).setCell ⟨X, 1, none⟩ (.string t)).setCell ⟨X, 2, none⟩ (.bool g)
theorem set3_row {w : World} {X : Nat} {x y z : Value} {t : TypeId} (h : w.heap[X]? = some (.cells #[x, y, z] t (0, 0))) (a : Int) (b : ByteArray) (g : Bool) :
    (set3 w X a b g).heap[X]? = some (.cells #[.int .i64 a, .string b, .bool g] t (0, 0)) := by
  have h1 := heap_setCell_same w X 0 _ t (.int .i64 a) h
  have h2 := heap_setCell_same _ X 1 _ t (.string b) h1
  exact heap_setCell_same _ X 2 _ t (.bool g) h2
theorem set3_else {w : World} {X k : Nat} (h : k ≠ X) (a : Int) (b : ByteArray) (g : Bool) : (set3 w X a b g).heap[k]? = w.heap[k]? := by
  unfold set3
  rw [heap_setCell_other _ _ _ _ h, heap_setCell_other _ _ _ _ h, heap_setCell_other _ _ _ _ h]
theorem set3_below {B X : Nat} {v w : World} (hb : Below B v w) (h : B ≤ X) (a : Int) (b : ByteArray) (g : Bool) : Below B v (set3 w X a b g) :=
  ((hb.setCell (p := ⟨X, 0, none⟩) h _).setCell (p := ⟨X, 1, none⟩) h _).setCell (p := ⟨X, 2, none⟩) h _
theorem end_fr (x : Fr) (h1 : x.at_ ≤ 1048576) (h2 : x.body.length ≤ 1048576) (w : World) :
    Calls Tryz.prog 77 #[.agg #[.int .i64 (x.at_ : Nat), .string ⟨x.body.toArray⟩, .bool x.good]] w fun e w' => e = .returned (.int .i64 (x.stop : Nat)) ∧ Below w.heap.size w w' :=
  end_any x.at_ ⟨x.body.toArray⟩ x.good h1 (by simpa [ByteArray.size] using h2) w
theorem heap_cell {A B : World} {b o : Nat} (h : B.heap[b]? = A.heap[b]?) : B.cell? ⟨b, o, none⟩ = A.cell? ⟨b, o, none⟩ := by
  simp [World.cell?, h]
theorem undrew {B : Nat} {w w' : World} (h : Below B w.drew w') : Below B w w' := ⟨h.os, h.tape, h.output, h.size, h.block⟩
theorem at_val {s : List UInt8} {q : Nat} {y : Fr} {k : Bool} (h1 : valOf s q = y) (h2 : thereB s q = k) (h3 : k = true) : y.at_ = q + 12 := by
  rw [← h1]
  unfold valOf
  rw [if_pos (h2.trans h3)]
  rfl
theorem mu_lt {X sz : Nat} {A B : World} {a b : Nat} {p q : Bool} (hA : A.cell? ⟨X, 0, none⟩ = some (.int .i64 (a : Nat))) (hB : B.cell? ⟨X, 0, none⟩ = some (.int .i64 (b : Nat))) (hp : p = true) (ha : a ≤ sz) (hq : q = true → a < b) :
    muF X sz (.bool q) B < muF X sz (.bool p) A := by
  unfold muF
  rw [hA, hB, hp]
  cases q with
  | true => have := hq rfl; simp [boolOf, intOf]; omega
  | false => simp [boolOf, intOf]; omega
set_option maxHeartbeats 2000000 in
theorem itr_any (s : ByteArray) (hs : s.size ≤ 1048576) (n l Bn : Nat) (W : World) (J : Nat → List Fr → World → Prop)
    (hBn : Bn < W.heap.size) (hc : W.cell? ⟨Bn, 0, none⟩ = some (.string s)) (hJG : ∀ n1 pre A, J n1 pre A → GL A) (hG : GL W)
    (hJ : ∀ n1 pre A B, J n1 pre A → Below W.heap.size A B → (∀ k, n1 ≤ k → k < A.heap.size → B.heap[k]? = A.heap[k]?) → J n1 pre B)
    (hJ0 : ∀ n1 B, Below W.heap.size W B → W.heap.size ≤ n1 → n1 ≤ B.heap.size → J n1 [] B)
    (hY : ∀ n1 pre x A, J n1 pre A → pre ++ [x] <+: scanL s.data.toList 0 → YieldAt Fence.wide (n - 1) Tryz.prog l #[frA x] A fun e B =>
      e = .returned (.bool true) ∧ J n1 (pre ++ [x]) B ∧ B.heap[Bn]? = A.heap[Bn]? ∧ ∀ k, W.heap.size ≤ k → k < n1 → B.heap[k]? = A.heap[k]?) :
    CallsIn Fence.wide n Tryz.prog 94 #[.func (.yield l) #[] #[], .pointer (some ⟨Bn, 0, none⟩)] W fun e W' => (∃ v, e = .returned v) ∧ ∃ n1, J n1 (scanL s.data.toList 0) W' := by
  have H0 := fat_any s hs 0 (Nat.zero_le _) W hG
  rw [fatV_eq] at H0
  refine callsIn_of_wp Tryz.func94 rfl trivial ?_ rfl
  simp only [Tryz.ntmps94, List.size_toArray, List.length_cons, List.length_nil, Nat.reduceAdd, Nat.reduceSub, Array.replicate_succ, Array.replicate_zero, List.push_toArray, List.append_toArray, List.nil_append, List.cons_append]
  gi_wp2_with fail
  refine ⟨trivial, fun h => (by cases h), ?_⟩
  refine (callsIn_wide.2 H0).mono ?_
  rintro e w1 ⟨rfl, hb1⟩
  obtain ⟨X, hX⟩ : ∃ X, w1.heap.size = X := ⟨_, rfl⟩
  have hX0 : W.heap.size ≤ X := by rw [← hX]; exact hb1.size
  unfold frR
  gi_wp2_with fail
  gi_loopw [4] (fun ok wr => ∃ (pre : List Fr) (a : Nat), ok = .bool (thereB s.data.toList a) ∧ a ≤ s.size ∧ pre ++ scanL s.data.toList a = scanL s.data.toList 0 ∧ wr.heap[X]? = some (.cells (frR (valOf s.data.toList a)) 113 (0, 0)) ∧ wr.cell? ⟨Bn, 0, none⟩ = some (.string s) ∧ J (X + 1) pre wr ∧ X + 1 ≤ wr.heap.size) (fun ok wr => muF X s.size ok wr)
  case atStart =>
    have hb2 : Below W.heap.size W (w1.alloc (.cells (frR (valOf s.data.toList 0)) 113)) := hb1.alloc hb1.size _
    refine ⟨[], 0, rfl, Nat.zero_le _, rfl, ?_, ?_, ?_, ?_⟩
    · rw [← hX]; exact heap_new _ _
    · exact (hb2.cell (p := ⟨Bn, 0, none⟩) hBn).trans hc
    · exact hJ0 _ _ hb2 (by omega) (by rw [← hX]; simp)
    · rw [← hX]; simp
  case round =>
    obtain ⟨pre, a, rfl, ha, hpre, hrow, hcB, hJa, hsz⟩ := hrel
    by_cases ht : there s.data.toList a
    · have ev : valOf s.data.toList a = frF s.data.toList a := by unfold valOf; rw [if_pos (thereB_yes ht)]
      rw [ev] at hrow
      have hsc := scanL_yes _ _ ht
      have hst := stop_le _ _ ht
      rw [slen] at hst
      have hpfx : pre ++ [frF s.data.toList a] <+: scanL s.data.toList 0 := ⟨scanL s.data.toList (frF s.data.toList a).stop, by rw [← hpre, hsc]; simp⟩
      have hpre' : (pre ++ [frF s.data.toList a]) ++ scanL s.data.toList (frF s.data.toList a).stop = scanL s.data.toList 0 := by rw [← hpre, hsc]; simp
      have hat : a + 12 = (frF s.data.toList a).at_ := rfl
      have hstp : (frF s.data.toList a).stop = (frF s.data.toList a).at_ + (frF s.data.toList a).body.length := rfl
      obtain ⟨x, hx⟩ : ∃ x, frF s.data.toList a = x := ⟨_, rfl⟩
      rw [hx] at hrow hst hpfx hpre' hat hstp
      obtain ⟨fn, tmps, assign, body, hy, hR⟩ := hY (X + 1) pre x wr hJa hpfx
      unfold frA at hy
      have r1 := row3 hrow
      have HC1 : Hid (wr.cell? ⟨X, 0, none⟩ = some (.int .i64 (x.at_ : Nat))) := r1.1.1
      rw [thereB_yes ht]
      clear hx ev hsc hJa
      gi_wp2
      refine ⟨fun h => (by cases h), hR.mono ?_⟩
      rintro e W3 ⟨rfl, hJ3, hBn3, hk3⟩
      have hrow3 : W3.heap[X]? = some (.cells (frR x) 113 (0, 0)) := (hk3 X hX0 (Nat.lt_succ_self _)).trans hrow
      have hcB3 : W3.cell? ⟨Bn, 0, none⟩ = some (.string s) := (heap_cell hBn3).trans hcB
      have hG3 := hJG _ _ _ hJ3
      have hX3 : X < W3.heap.size := (Array.getElem?_eq_some_iff.1 hrow3).1
      have hB3 : Bn < W3.heap.size := World.block_lt_of_cell? _ _ hcB3
      have r3 := row3 hrow3
      clear hY hR hy r1 hBn3 hk3 hrow hcB H0 hJG hJ0
      gi_wp2_with fail
      refine wpIn_wide.2 ?_
      have HE := fun w4 : World => end_fr x (by omega) (by omega) w4
      have HF := fun (w4 : World) (h4 : GL w4) => fat_any s hs x.stop hst.2 w4 h4
      rw [fatV_eq] at HF
      unfold frR at HF
      obtain ⟨y, hy⟩ : ∃ y, valOf s.data.toList x.stop = y := ⟨_, rfl⟩
      obtain ⟨k, hk⟩ : ∃ k, thereB s.data.toList x.stop = k := ⟨_, rfl⟩
      rw [hy, hk] at HF
      obtain ⟨q, hq⟩ : ∃ q, x.stop = q := ⟨_, rfl⟩
      rw [hq] at HF HE hst hpre' hy hk
      have HY : Hid (valOf s.data.toList q = y) := hy
      have HK : Hid (thereB s.data.toList q = k) := hk
      have hxq : x.at_ ≤ q := by omega
      have HP : Hid ((pre ++ [x]) ++ scanL s.data.toList q = scanL s.data.toList 0) := hpre'
      clear hy hk hq hpre' hpfx hpre hstp
      have hG3' : GL W3.drew := hG3
      have hcB3' : W3.drew.cell? ⟨Bn, 0, none⟩ = some (.string s) := hcB3
      have hB3' : Bn < W3.drew.heap.size := hB3
      have hX3' : X < W3.drew.heap.size := hX3
      have hrow3' : W3.drew.heap[X]? = some (.cells (frR x) 113 (0, 0)) := hrow3
      go_region_with (first | (go_at_call 77; refine (HE _).mono ?_; rintro e w4 ⟨rfl, hb4⟩; have hG4 := hG3'.later rfl hb4; have c4 := (hb4.cell (p := ⟨Bn, 0, none⟩) hB3').trans hcB3'; have hs4 := hb4.size) | (go_at_call 95; refine (HF _ hG4).mono ?_; rintro e w5 ⟨rfl, hb5⟩; have hrow5 := (hb5.block X (by omega)).trans ((hb4.block X hX3').trans hrow3'); have r5 := row3 hrow5))
      all_goals
        simp only [List.getElem_toArray, List.getElem_cons_succ, List.getElem_cons_zero, Act.put, List.setIfInBounds_toArray, List.set_cons_zero, List.set_cons_succ]
        go_wp2
        go_roundw
        case rel =>
          have hb5' : Below W3.heap.size W3 w5 := (undrew hb4).trans (hb5.mono (undrew hb4).size)
          have hs5 := hb5'.size
          have hJs := (hJ (X + 1) (pre ++ [x]) W3 (set3 w5 X (y.at_ : Nat) ⟨y.body.toArray⟩ y.good) hJ3
            (set3_below (hb5'.mono (by omega)) hX0 _ _ _) (fun i h1 h2 => (set3_else (by omega) _ _ _).trans (hb5'.block i h2)))
          exact ⟨pre ++ [x], q, by rw [HK.out], by omega, HP.out, by rw [HY.out]; exact set3_row hrow5 _ _ _, (heap_cell (set3_else (by omega) _ _ _)).trans ((hb5'.cell (p := ⟨Bn, 0, none⟩) hB3).trans hcB3), hJs, Nat.le_trans (show X + 1 ≤ W3.heap.size by omega) (set3_below (X := X) (hb5'.mono (B' := 0) (Nat.zero_le _)) (Nat.zero_le _) (y.at_ : Nat) ⟨y.body.toArray⟩ y.good).size⟩
        case measure =>
          exact mu_lt (a := x.at_) (b := y.at_) HC1.out (row3 (set3_row hrow5 _ _ _)).1.1 rfl (by omega) (fun hk => by have := at_val HY.out HK.out hk; omega)
    · rw [thereB_false ht]
      have hsc := scanL_no _ _ ht
      rw [hsc, List.append_nil] at hpre
      gi_wp2
      refine ⟨fun _ h => (by cases h), ?_⟩
      gi_wp2
      go_end0
      exact ⟨⟨_, rfl⟩, _, by rw [← hpre]; exact hJa⟩
end Go.Proofs.YtgjalfcpfgbneaaGreatDoor.F
