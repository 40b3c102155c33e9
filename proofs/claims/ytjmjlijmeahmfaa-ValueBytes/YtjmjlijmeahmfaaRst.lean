/- The document's shape of a formed value of kind six, with at most 32 parts: whether its names may be and rise, then the first error of its parts. -/
import Derived.Test.YtjmjlijmeahmfaaRlist
namespace Go.Proofs.Ytjmjlijmeahmfaa
open Go.RowKit
set_option maxRecDepth 20000 in
set_option maxHeartbeats 4000000 in
theorem rshape_struct {B : Nat} {w : World} {b : Bool} {n : Int} {s : ByteArray} {m : Nat} {f : Nat → Tr} {g : Nat → ByteArray} {x : Ad} (d : Int) (h0 : 0 ≤ d) (h8 : ¬ 8 < d)
    (hL : Lies B w (.mk 6 b n s m f m g) x) (hB : B ≤ w.heap.size) (hf : formedB 6 b n s m m = true) (h32 : ¬ 32 < m)
    (ih : ∀ i, i < m → ∀ (w : World) (A : Ad), Lies B w (f i) A → B ≤ w.heap.size → Calls Try.prog 36 #[(f i).val A, .int .i64 (d + 1)] w fun e w' => e = .returned (.int .i64 (soundT (f i) (d + 1))) ∧ Below w.heap.size w w') :
    Calls Try.prog 36 #[(Tr.mk 6 b n s m f m g).val x, .int .i64 d] w fun e w' => e = .returned (.int .i64 (if namedB m m g = false then 31 else fe m (fun i => soundT (f i) (d + 1)))) ∧ Below w.heap.size w w' := by
  obtain ⟨-, -, hgs, hna⟩ := (hL.lims).2.2.2.2
  obtain ⟨A, hp, hr⟩ := hL.part
  clear hL
  obtain ⟨pa, pc, na, nc⟩ := x
  obtain ⟨R, hR⟩ : ∃ R : Nat → Int, (fun i => soundT (f i) (d + 1)) = R := ⟨_, rfl⟩
  have hRi : ∀ i, soundT (f i) (d + 1) = R i := fun i => congrFun hR i
  rw [hR]
  clear hR
  simp only [hRi] at ih
  obtain ⟨Z, hZ⟩ : ∃ Z : Int, (if namedB m m g = false then 31 else fe m R) = Z := ⟨_, rfl⟩
  rw [hZ]
  have HZ : Hid ((if namedB m m g = false then 31 else fe m R) = Z) := hZ
  clear hZ
  have hd : IntKind.i64.wrap (d + 1) = d + 1 := by rw [IntKind.wrap_i64]; omega
  have h8' : d ≤ 8 := by omega
  have h32' : (m : Int) ≤ 32 := by omega
  have hV : (Tr.mk 6 b n s m f m g).val ⟨pa, pc, na, nc⟩ = .agg #[.int .i64 6, .bool b, .int .i64 n, .string s, .slice pa m pc, .slice na m nc] := rfl
  rw [hV]
  clear hV
  obtain ⟨rfl, rfl, hs⟩ : b = false ∧ n = 0 ∧ s.toList.isEmpty = true := by
    unfold formedB at hf
    simp at hf
    simp_all
  clear hf
  have HI : Hid (∀ i, i < m → ∀ (w : World) (A : Ad), Lies B w (f i) A → B ≤ w.heap.size → Calls Try.prog 36 #[(f i).val A, .int .i64 (d + 1)] w fun e w' => e = .returned (.int .i64 (R i)) ∧ Below w.heap.size w w') := ih
  clear ih hRi
  have HP : Hid (0 < m → ∃ b o, pa = some ⟨b, o, none⟩ ∧ b < B ∧ ∀ i, i < m → At6 w b (o + i * 6) (f i) (A i)) := hp
  clear hp
  have HN : Hid (0 < m → ∃ b o, na = some ⟨b, o, none⟩ ∧ b < B ∧ ∀ i, i < m → w.cell? ⟨b, o + i, none⟩ = some (.string (g i))) := hna
  clear hna
  have HG : Hid (∀ i, i < m → (g i).size ≤ maxLen) := hgs
  clear hgs
  go_enter Try.func36, Try.ntmps36
  go_wp2_with fail
  go_loopw [6] (fun c6 wr => ∃ i : Nat, i ≤ m ∧ c6 = .int .i64 (i : Int) ∧ (∀ j, j < i → okN g j = true) ∧ wr.cell? ⟨w.heap.size, 4, none⟩ = some (.slice pa m pc) ∧ wr.cell? ⟨w.heap.size, 5, none⟩ = some (.slice na m nc) ∧ Below w.heap.size w wr ∧ w.heap.size < wr.heap.size) (fun c6 _ => m - (intOf c6).toNat)
  case atStart => exact ⟨0, by omega, rfl, fun j hj => by omega, cell_of_row _ _ 4 _ _ _ (heap_alloc_new _ _), cell_of_row _ _ 5 _ _ _ (heap_alloc_new _ _), (Below.refl _ _).alloc (Nat.le_refl _) _, by simp⟩
  case round =>
    obtain ⟨i, hi, rfl, hj, hc4, hc5, hbr, hsr⟩ := hrel
    have HJ : Hid (∀ j, j < i → okN g j = true) := hj
    clear hj
    by_cases him : i < m
    · have him' : (i : Int) < (m : Int) := by omega
      obtain ⟨nb, no, rfl, hnb, hcell⟩ := HN.out (by omega)
      have hc := cell_later (hcell i him) (by show nb < w.heap.size; omega) hbr
      have hnm := fun (W : World) => rname_any (g i) (by have := HG.out i him; unfold maxLen at this; omega) W
      cases hn : nameB (g i) with
      | false =>
        rw [hn] at hnm
        go_wp2_with fail
        go_quiet ((go_at_call 27; exact Calls.quiet_of_same (hnm _)))
        go_wp2
        go_ret
        refine ⟨?_, ⟨hbr.os, hbr.tape, hbr.output, hbr.size, hbr.block⟩⟩
        rw [← HZ.out, if_pos (namedB_no him (okN_name hn))]
        rfl
      | true =>
        rw [hn] at hnm
        by_cases hi0 : 0 < i
        · have hi0' : (0 : Int) < (i : Int) := by omega
          obtain ⟨j, rfl⟩ : ∃ j, i = j + 1 := ⟨i - 1, by omega⟩
          have hc2 := cell_later (hcell j (by omega)) (by show nb < w.heap.size; omega) hbr
          go_wp2_with fail
          go_quiet ((go_at_call 27; exact Calls.quiet_of_same (hnm _)))
          go_wp2
          · rename_i hl
            go_ret
            refine ⟨?_, ⟨hbr.os, hbr.tape, hbr.output, hbr.size, hbr.block⟩⟩
            rw [← HZ.out, if_pos (namedB_no him (okN_less hl))]
            rfl
          · rename_i hl
            go_roundw
            case rel => exact ⟨j + 1 + 1, by omega, by go_num, okN_step HJ.out (okN_rise hn hl), hc4, hc5, ⟨hbr.os, hbr.tape, hbr.output, hbr.size, hbr.block⟩, hsr⟩
            case measure => simp [intOf]; omega
        · obtain rfl : i = 0 := by omega
          clear him' hi0
          have hm0 : (0 : Int) < (m : Int) := by omega
          rw [Nat.add_zero] at hc
          go_wp2_with fail
          go_quiet ((go_at_call 27; exact Calls.quiet_of_same (hnm _)))
          go_wp2
          go_roundw
          case rel => exact ⟨0 + 1, by omega, by go_num, okN_step HJ.out (okN_zero hn), hc4, hc5, ⟨hbr.os, hbr.tape, hbr.output, hbr.size, hbr.block⟩, hsr⟩
          case measure => simp [intOf]; omega
    · obtain rfl : i = m := by omega
      have hZ : fe i R = Z := by rw [← HZ.out, if_neg (by rw [namedB_yes HJ.out]; decide)]
      have HZ2 : Hid (fe i R = Z) := hZ
      clear hZ him
      obtain ⟨W, hW⟩ : ∃ W, wr = W := ⟨_, rfl⟩
      subst hW
      have hB0 : Hid (Below w.heap.size w wr) := hbr
      have hs0 : Hid (w.heap.size < wr.heap.size) := hsr
      have hc0 : Hid (wr.cell? ⟨w.heap.size, 4, none⟩ = some (.slice pa i pc)) := hc4
      go_wp2_with fail
      go_loopw [7] (fun c7 wr => ∃ z : Nat, z ≤ i ∧ c7 = .int .i64 (z : Int) ∧ fe z R = 0 ∧ wr.cell? ⟨w.heap.size, 4, none⟩ = some (.slice pa i pc) ∧ Below w.heap.size w wr ∧ w.heap.size < wr.heap.size) (fun c7 _ => i - (intOf c7).toNat)
      case atStart => exact ⟨0, by omega, rfl, rfl, hc0.out, hB0.out, hs0.out⟩
      case round =>
        obtain ⟨z, hi, rfl, hfe, hc4, hbr, hsr⟩ := hrel
        have HE : Hid (fe z R = 0) := hfe
        clear hfe
        by_cases him : z < i
        · have him' : (z : Int) < (i : Int) := by omega
          obtain ⟨pb, po, rfl, hpb, hat⟩ := HP.out (by omega)
          have hbw : Below B w wr := hbr.mono hB
          have h6a := (hat z him).later hpb hbw
          have d0 := h6a.c0
          have d1 := h6a.c1
          have d2 := h6a.c2
          have d3 := h6a.c3
          have d4 := h6a.c4
          have d5 := h6a.c5
          have hLi := (hr z him).later hbw
          have hsz := hbw.size
          go_wp2_with fail
          refine (HI.out z him _ (A z) hLi (by omega)).mono ?_
          rintro e w3 ⟨rfl, hb3⟩
          have hc5 : w3.cell? ⟨w.heap.size, 4, none⟩ = some (.slice (some ⟨pb, po, none⟩) i pc) := (hb3.cell hsr).trans hc4
          have hbx := hbr.trans (hb3.mono (by have := hbr.size; omega))
          have hsx : w.heap.size < w3.heap.size := by have := hb3.size; omega
          clear hb3
          obtain ⟨y, hy⟩ : ∃ y, R z = y := ⟨_, rfl⟩
          rw [hy]
          have HY : Hid (R z = y) := hy
          clear hy
          by_cases hy0 : y = 0
          · subst hy0
            go_wp2
            go_roundw
            case rel => exact ⟨z + 1, by omega, by go_num, fe_step HE.out HY.out, hc5, hbx, hsx⟩
            case measure => simp [intOf]; omega
          · have hy1 : (y != 0) = true := by simpa using hy0
            go_wp2
            go_ret
            rw [← HZ2.out, fe_at i him HE.out (by rw [HY.out]; exact hy0), HY.out]
            exact ⟨rfl, hbx⟩
        · obtain rfl : z = i := by omega
          go_wp2
          go_ret
          rw [← HZ2.out, HE.out]
          exact ⟨rfl, hbr⟩
end Go.Proofs.Ytjmjlijmeahmfaa
