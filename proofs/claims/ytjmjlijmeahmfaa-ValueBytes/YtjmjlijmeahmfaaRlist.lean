/- The document's shape of a formed value of kind five, with at most 32 parts: the first error of its parts. -/
import Derived.Test.YtjmjlijmeahmfaaRshape
namespace Go.Proofs.Ytjmjlijmeahmfaa
open Go.RowKit
set_option maxRecDepth 20000 in
set_option maxHeartbeats 4000000 in
theorem rshape_list {B : Nat} {w : World} {b : Bool} {n : Int} {s : ByteArray} {m : Nat} {f : Nat → Tr} {q : Nat} {g : Nat → ByteArray} {x : Ad} (d : Int) (h0 : 0 ≤ d) (h8 : ¬ 8 < d)
    (hL : Lies B w (.mk 5 b n s m f q g) x) (hB : B ≤ w.heap.size) (hf : formedB 5 b n s m q = true) (h32 : ¬ 32 < m)
    (ih : ∀ i, i < m → ∀ (w : World) (A : Ad), Lies B w (f i) A → B ≤ w.heap.size → Calls Try.prog 36 #[(f i).val A, .int .i64 (d + 1)] w fun e w' => e = .returned (.int .i64 (soundT (f i) (d + 1))) ∧ Below w.heap.size w w') :
    Calls Try.prog 36 #[(Tr.mk 5 b n s m f q g).val x, .int .i64 d] w fun e w' => e = .returned (.int .i64 (fe m (fun i => soundT (f i) (d + 1)))) ∧ Below w.heap.size w w' := by
  obtain ⟨A, hp, hr⟩ := hL.part
  clear hL
  obtain ⟨pa, pc, na, nc⟩ := x
  obtain ⟨R, hR⟩ : ∃ R : Nat → Int, (fun i => soundT (f i) (d + 1)) = R := ⟨_, rfl⟩
  have hRi : ∀ i, soundT (f i) (d + 1) = R i := fun i => congrFun hR i
  rw [hR]
  clear hR
  simp only [hRi] at ih
  have hd : IntKind.i64.wrap (d + 1) = d + 1 := by rw [IntKind.wrap_i64]; omega
  have h8' : d ≤ 8 := by omega
  have h32' : (m : Int) ≤ 32 := by omega
  have hV : (Tr.mk 5 b n s m f q g).val ⟨pa, pc, na, nc⟩ = .agg #[.int .i64 5, .bool b, .int .i64 n, .string s, .slice pa m pc, .slice na q nc] := rfl
  rw [hV]
  clear hV
  obtain ⟨rfl, rfl, hs, rfl⟩ : b = false ∧ n = 0 ∧ s.toList.isEmpty = true ∧ q = 0 := by
    unfold formedB at hf
    simp at hf
    simp_all
  clear hf
  have HI : Hid (∀ i, i < m → ∀ (w : World) (A : Ad), Lies B w (f i) A → B ≤ w.heap.size → Calls Try.prog 36 #[(f i).val A, .int .i64 (d + 1)] w fun e w' => e = .returned (.int .i64 (R i)) ∧ Below w.heap.size w w') := ih
  clear ih hRi
  have HP : Hid (0 < m → ∃ b o, pa = some ⟨b, o, none⟩ ∧ b < B ∧ ∀ i, i < m → At6 w b (o + i * 6) (f i) (A i)) := hp
  clear hp
  go_enter Try.func36, Try.ntmps36
  go_wp2_with fail
  go_loopw [7] (fun c7 wr => ∃ i : Nat, i ≤ m ∧ c7 = .int .i64 (i : Int) ∧ fe i R = 0 ∧ wr.cell? ⟨w.heap.size, 4, none⟩ = some (.slice pa m pc) ∧ Below w.heap.size w wr ∧ w.heap.size < wr.heap.size) (fun c7 _ => m - (intOf c7).toNat)
  case atStart => exact ⟨0, by omega, rfl, rfl, cell_of_row _ _ 4 _ _ _ (heap_alloc_new _ _), (Below.refl _ _).alloc (Nat.le_refl _) _, by simp⟩
  case round =>
    obtain ⟨i, hi, rfl, hfe, hc4, hbr, hsr⟩ := hrel
    have HE : Hid (fe i R = 0) := hfe
    clear hfe
    by_cases him : i < m
    · have him' : (i : Int) < (m : Int) := by omega
      obtain ⟨pb, po, rfl, hpb, hat⟩ := HP.out (by omega)
      have hbw : Below B w wr := hbr.mono hB
      have h6a := (hat i him).later hpb hbw
      have d0 := h6a.c0
      have d1 := h6a.c1
      have d2 := h6a.c2
      have d3 := h6a.c3
      have d4 := h6a.c4
      have d5 := h6a.c5
      have hLi := (hr i him).later hbw
      have hsz := hbw.size
      go_wp2_with fail
      refine (HI.out i him _ (A i) hLi (by omega)).mono ?_
      rintro e w3 ⟨rfl, hb3⟩
      have hc5 : w3.cell? ⟨w.heap.size, 4, none⟩ = some (.slice (some ⟨pb, po, none⟩) m pc) := (hb3.cell hsr).trans hc4
      have hbx := hbr.trans (hb3.mono (by have := hbr.size; omega))
      have hsx : w.heap.size < w3.heap.size := by have := hb3.size; omega
      clear hb3
      obtain ⟨y, hy⟩ : ∃ y, R i = y := ⟨_, rfl⟩
      rw [hy]
      have HY : Hid (R i = y) := hy
      clear hy
      by_cases hy0 : y = 0
      · subst hy0
        go_wp2
        go_roundw
        case rel => exact ⟨i + 1, by omega, by go_num, fe_step HE.out HY.out, hc5, hbx, hsx⟩
        case measure => simp [intOf]; omega
      · have hy1 : (y != 0) = true := by simpa using hy0
        go_wp2
        go_ret
        rw [fe_at m him HE.out (by rw [HY.out]; exact hy0), HY.out]
        exact ⟨rfl, hbx⟩
    · obtain rfl : i = m := by omega
      go_wp2
      go_ret
      rw [HE.out]
      exact ⟨rfl, hbr⟩
end Go.Proofs.Ytjmjlijmeahmfaa
