/- Open of a disk with one file of two records; a record there and back (awake). -/
import Derived.Test.YtgjalfcpfgbneaaGreatDoorJn8
import Derived.Test.YtgjalfcpfgbneaaGreatDoorUps
namespace Go.Proofs.YtgjalfcpfgbneaaGreatDoor
open Go.RowKit Go.Shelf
set_option maxRecDepth 20000 in
set_option maxHeartbeats 1000000 in
theorem jread_no {j d m k : Nat} {D : DataW Unit} {most files : Int} {rv : Value} {sec used ch : Int} {pl : Value} (n : Int) (hI : I64 n) (w : World) (hj : Jr w j d most rv files) (h : Dk w d (.map (some m)) sec used ch pl false) (hm : Mp w m k D) (hD : D.atKey (.int .i64 n) .nil = .nil) :
    Calls Tryz.prog 25 #[.pointer (some ⟨j, 0, none⟩), .int .i64 n] w fun e w' => e = .returned (.bool false) ∧ w' = w := by
  have k := read_no n hI w h hm hD
  obtain ⟨c0, c1, c2, c3⟩ := hj.cells
  clear h hj hm hD
  go_enter Tryz.func25, Tryz.ntmps25
  go_wp2_with fail
  refine k.mono ?_
  rintro e w1 ⟨rfl, rfl⟩
  go_wp2
  go_ret
  exact ⟨rfl, rfl⟩
theorem at_two (x : DataW Unit) : (DataW.map [(.int .i64 1, x)]).atKey (.int .i64 2) .nil = .nil := by simp [DataW.atKey, Lit.sameKey]
set_option maxRecDepth 100000 in
set_option maxHeartbeats 4000000 in
theorem open_one {d m f g cap base : Nat} {sec used ch sure : Int} {pl ov : Value} (most : Int) (hmo : 1 ≤ most) (x y : ByteArray) (hx : x.size ≤ 1000) (hy : y.size ≤ 1000) (w : World) (hG : F.GL w) (hd : Dk w d (.map (some m)) sec used ch pl false)
    (hm : Mp w m 1 (D1 1 (.lit (.int .u64 (f : Int))))) (hf : Fl w f (.slice (some ⟨g, 0, none⟩) (24 + x.size + y.size) cap) sure ov) (ho : w.ownsRow base 5 1 (.slice (some ⟨g, 0, none⟩) (24 + x.size + y.size) cap) (24 + x.size + y.size) (Lib.strCells ⟨((frT x).data.toList ++ (frT y).data.toList).toArray⟩)) :
    Calls Tryz.prog 7 #[.pointer (some ⟨d, 0, none⟩), .int .i64 most] w fun e w' => e = .returned (.tuple #[.pointer (some ⟨w.heap.size, 0, none⟩), .int .i64 0]) ∧ ∃ gr cr : Nat, Jr w' w.heap.size d most (.slice (some ⟨gr, 0, none⟩) 2 cr) 1 ∧ w'.cell? ⟨gr, 4, none⟩ = some (.int .i64 1) ∧ w'.cell? ⟨gr, 5, none⟩ = some (.int .i64 ((12 + x.size + 12 : Nat) : Int)) ∧ w'.cell? ⟨gr, 6, none⟩ = some (.string (frT y)) ∧ w'.cell? ⟨gr, 7, none⟩ = some (.bool true) ∧ Below w.heap.size w w' := by
  have k := dead_any w hd
  have h1 : decide (most < 1) = false := decide_eq_false (by omega)
  have hdl := lt_of_row hd
  obtain ⟨w1, hw1⟩ : ∃ w1, w.alloc (.cells #[.pointer (some ⟨d, 0, none⟩), .int .i64 most, .slice none 0 0, .int .i64 0] 72) = w1 := ⟨_, rfl⟩
  have hb : Below w.heap.size w w1 := by rw [← hw1]; exact (Below.refl _ w).alloc (Nat.le_refl _) _
  have hj : Jr w1 w.heap.size d most (.slice none 0 0) 0 := by rw [← hw1]; exact heap_alloc_new _ _
  have hd1 : Dk w1 d (.map (some m)) sec used ch pl false := (hb.block _ hdl).trans hd
  have hm1 : Mp w1 m 1 (D1 1 (.lit (.int .u64 (f : Int)))) := mp_kept hm (hb.block _ hm.lt)
  have hf1 := (hb.block _ (lt_of_row hf)).trans hf
  have ho1 := own_same ho (fun k hk => hb.block k (ho.lt k hk).2)
  have kr := jread_two x y hx hy w1 (hG.later rfl hb) hj hd1 (by omega) hm1 hf1 ho1
  obtain ⟨j, hjn⟩ : ∃ j, w.heap.size = j := ⟨_, rfl⟩
  have hmj : m < j := by have := hm.lt; omega
  have hdj : d < j := by omega
  have HW : Hid (w.alloc (.cells #[.pointer (some ⟨d, 0, none⟩), .int .i64 most, .slice none 0 0, .int .i64 0] 72) = w1) := hw1
  have HD : Hid (Dk w1 d (.map (some m)) sec used ch pl false ∧ Mp w1 m 1 (D1 1 (.lit (.int .u64 (f : Int)))) ∧ Below w.heap.size w w1 ∧ w.heap.size = j) := ⟨hd1, hm1, hb, hjn⟩
  rw [hjn] at kr ⊢
  have hjl : Jr w1 j d most (.slice none 0 0) 0 := by rw [← hjn]; exact hj
  have hj1 := lt_of_row hjl
  clear hd hm hf ho hw1 hb hj hd1 hm1 hf1 ho1 hG hjl
  have HJN : Hid (w.heap.size = j) := hjn
  go_enter Tryz.func7, Tryz.ntmps7
  go_wp2_with fail
  refine k.mono ?_
  rintro e w2 ⟨rfl, rfl⟩
  go_wp2_with (first | rw [HW.out] | fail)
  go_loopw [7] (fun v wr => (v = .int .i64 1 ∧ wr = w1) ∨ (v = .int .i64 2 ∧ ∃ gr cr : Nat, Jr wr j d most (.slice (some ⟨gr, 0, none⟩) 2 cr) 1 ∧ wr.cell? ⟨gr, 4, none⟩ = some (.int .i64 1) ∧ wr.cell? ⟨gr, 5, none⟩ = some (.int .i64 ((12 + x.size + 12 : Nat) : Int)) ∧ wr.cell? ⟨gr, 6, none⟩ = some (.string (frT y)) ∧ wr.cell? ⟨gr, 7, none⟩ = some (.bool true) ∧ Chg (fun k => k = j) w1 wr)) (fun v _ => 2 - (intOf v).toNat)
  case atStart => exact Or.inl ⟨rfl, rfl⟩
  case round =>
    rcases hrel with ⟨rfl, rfl⟩ | ⟨rfl, gr, cr, q0, q1, q2, q3, q4, hc⟩
    · go_wp2_with fail
      refine kr.mono ?_
      rintro e w3 ⟨rfl, h3⟩
      have H3 : Hid (∃ gr cr : Nat, Jr w3 j d most (.slice (some ⟨gr, 0, none⟩) 2 cr) 1 ∧ w3.cell? ⟨gr, 4, none⟩ = some (.int .i64 1) ∧ w3.cell? ⟨gr, 5, none⟩ = some (.int .i64 ((12 + x.size + 12 : Nat) : Int)) ∧ w3.cell? ⟨gr, 6, none⟩ = some (.string (frT y)) ∧ w3.cell? ⟨gr, 7, none⟩ = some (.bool true) ∧ Chg (fun k => k = j) wr w3) := h3
      clear h3 kr
      go_wp2
      go_roundw
      case rel => exact Or.inr ⟨rfl, H3.out⟩
      case measure => simp [intOf]
    · have hd2 : Dk wr d (.map (some m)) sec used ch pl false := (hc.block _ (by omega) (by omega)).trans HD.out.1
      have hm2 : Mp wr m 1 (D1 1 (.lit (.int .u64 (f : Int)))) := mp_kept HD.out.2.1 (hc.block _ (by omega) (by omega))
      have kn := jread_no 2 ⟨by omega, by omega⟩ wr q0 hd2 hm2 (at_two _)
      have H3 : Hid (Jr wr j d most (.slice (some ⟨gr, 0, none⟩) 2 cr) 1 ∧ wr.cell? ⟨gr, 4, none⟩ = some (.int .i64 1) ∧ wr.cell? ⟨gr, 5, none⟩ = some (.int .i64 ((12 + x.size + 12 : Nat) : Int)) ∧ wr.cell? ⟨gr, 6, none⟩ = some (.string (frT y)) ∧ wr.cell? ⟨gr, 7, none⟩ = some (.bool true) ∧ Below j w2 wr) := ⟨q0, q1, q2, q3, q4, by rw [← HJN.out]; exact HD.out.2.2.1.trans (hc.below HD.out.2.2.1.size (fun k hk => by have := HJN.out; omega))⟩
      clear q0 q1 q2 q3 q4 hc hd2 hm2 kr
      go_wp2_with fail
      refine kn.mono ?_
      rintro e w4 ⟨rfl, rfl⟩
      go_wp2
      refine bodyPost_ret (results_tmp2 rfl _ _ _) rfl ⟨rfl, gr, cr, ?_⟩
      exact H3.out
end Go.Proofs.YtgjalfcpfgbneaaGreatDoor
