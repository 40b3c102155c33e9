/- The document's bytes of a sound list or struct, and of any sound value. -/
import Derived.Test.YtjmjlijmeahmfaaRval
import Derived.Test.YtjmjlijmeahmfaaEbx
import Derived.Test.YtjmjlijmeahmfaaRsh
namespace Go.Proofs.Ytjmjlijmeahmfaa
open Go.RowKit
theorem cat_le (F : Nat → List UInt8) {i m : Nat} (h : i < m) : (cat i F).length + (F i).length ≤ (cat m F).length := by
  obtain ⟨y, hy⟩ := cat_more F (i := i + 1) (m := m) (by omega)
  rw [hy, List.length_append]
  show _ ≤ (cat i F ++ F i).length + y.length
  rw [List.length_append]
  omega
set_option maxRecDepth 20000 in
set_option maxHeartbeats 4000000 in
theorem rval_list {w : World} {b : Bool} {n : Int} {s : ByteArray} {m : Nat} {f : Nat → Tr} {q : Nat} {g : Nat → ByteArray} {B : Nat} {x : Ad} (hL : Lies B w (.mk 5 b n s m f q g) x) (hB : B ≤ w.heap.size) (m32 : m ≤ 32)
    (hlen : (bytesT (.mk 5 b n s m f q g)).length ≤ 9000000000000000000) (ih : ∀ i, i < m → RvalC (f i)) :
    Calls Try.prog 16 #[(Tr.mk 5 b n s m f q g).val x] w fun e w' => e = .returned (.string ⟨(bytesT (.mk 5 b n s m f q g)).toArray⟩) ∧ Below w.heap.size w w' := by
  obtain ⟨A, hp, hr⟩ := hL.part
  have hN : Names B w q g x.na x.nc := hL.lims.2.2.2.2
  clear hL
  obtain ⟨pa, pc, na, nc⟩ := x
  obtain ⟨F, hF⟩ : ∃ F : Nat → List UInt8, (fun i => bytesT (f i)) = F := ⟨_, rfl⟩
  have hT : bytesT (.mk 5 b n s m f q g) = 5 :: (put m ++ cat m F) := by rw [bytesT, ← hF]; rfl
  rw [hT] at hlen ⊢
  have hFi : ∀ i, bytesT (f i) = F i := fun i => congrFun hF i
  have HF : Hid (∀ i, bytesT (f i) = F i) := hFi
  clear hT hF hFi
  have HL : Hid ((5 :: (put m ++ cat m F)).length ≤ 9000000000000000000) := hlen
  clear hlen
  have hV : (Tr.mk 5 b n s m f q g).val ⟨pa, pc, na, nc⟩ = .agg #[.int .i64 5, .bool b, .int .i64 n, .string s, .slice pa m pc, .slice na q nc] := rfl
  rw [hV]
  clear hV
  have HI : Hid (∀ i, i < m → RvalC (f i)) := ih
  clear ih
  have HP : Hid (0 < m → ∃ b o, pa = some ⟨b, o, none⟩ ∧ b < B ∧ ∀ i, i < m → At6 w b (o + i * 6) (f i) (A i)) := hp
  clear hp
  have HR : Hid (∀ i, i < m → Lies B w (f i) (A i)) := hr
  clear hr
  clear hN
  have hW := IntKind.wrap_u8'
  have hcv := conv1 (w.alloc (.cells #[.int .i64 5, .bool b, .int .i64 n, .string s, .slice pa m pc, .slice na q nc] 33)) (UInt8.ofNat 5) 5 5 rfl
  rw [show (w.alloc (.cells #[.int .i64 5, .bool b, .int .i64 n, .string s, .slice pa m pc, .slice na q nc] 33)).heap.size = w.heap.size + 1 by simp] at hcv
  have hb1 : Below w.heap.size w ((w.alloc (.cells #[.int .i64 5, .bool b, .int .i64 n, .string s, .slice pa m pc, .slice na q nc] 33)).alloc (.cells #[.int .u8 5] 5)) := ((Below.refl _ w).alloc (Nat.le_refl _) _).alloc (by simp) _
  have r1 : ((w.alloc (.cells #[.int .i64 5, .bool b, .int .i64 n, .string s, .slice pa m pc, .slice na q nc] 33)).alloc (.cells #[.int .u8 5] 5)).heap[w.heap.size]? = some (.cells #[.int .i64 5, .bool b, .int .i64 n, .string s, .slice pa m pc, .slice na q nc] 33 (0, 0)) := by
    rw [Below.heap_alloc _ _ _ (by simp)]; exact heap_alloc_new _ _
  have hu := fun (W : World) => rput_any m (by omega) W
  have hl := put_len10 (n := m) (by omega)
  obtain ⟨y, hy⟩ : ∃ y : ByteArray, (⟨(put m).toArray⟩ : ByteArray) = y := ⟨_, rfl⟩
  have hz : y.size ≤ 10 := by rw [← hy, put_size]; exact hl
  have hy2 : y.data.toList = put m := by rw [← hy]
  rw [hy] at hu
  clear hy hl
  have HY : Hid (y.data.toList = put m) := hy2
  clear hy2
  have hz2 : 1 + y.size ≤ 9223372036854775807 := by omega
  have hwm : IntKind.u64.wrap (m : Int) = (m : Int) := by rw [IntKind.wrap_u64]; omega
  go_enter Try.func16, Try.ntmps16
  go_wp2_with fail
  refine (hu _).mono ?_
  rintro e w1 ⟨rfl, hbw⟩
  have B1 : Below w.heap.size w w1 := hb1.trans (hbw.mono (by simp; omega))
  have r2 := (hbw.block w.heap.size (by simp; omega)).trans r1
  clear hu hbw hb1 r1 hcv
  go_wp2_with fail
  go_loopw [3, 4] (fun c3 c4 wr => ∃ (i : Nat) (z : ByteArray), i ≤ m ∧ c4 = .int .i64 (i : Int) ∧ c3 = .string z ∧ z.data.toList = 5 :: (put m ++ cat i F) ∧ wr.heap[w.heap.size]? = some (.cells #[.int .i64 5, .bool b, .int .i64 n, .string s, .slice pa m pc, .slice na q nc] 33 (0, 0)) ∧ Below w.heap.size w wr) (fun _ c4 _ => m - (intOf c4).toNat)
  case atStart => exact ⟨0, ⟨#[5]⟩ ++ y, by omega, rfl, rfl, by rw [ByteArray.data_append, Array.toList_append, HY.out]; simp [cat], r2, B1⟩
  case round =>
    clear r2 B1
    obtain ⟨i, z, hi, rfl, rfl, hzl, hrow, hbr⟩ := hrel
    have HZ : Hid (z.data.toList = 5 :: (put m ++ cat i F)) := hzl
    clear hzl
    have g0 := cell_of_row wr _ 0 _ _ _ hrow
    have g4 := cell_of_row wr _ 4 _ _ _ hrow
    have g5 := cell_of_row wr _ 5 _ _ _ hrow
    have hlt := lt_of_row hrow
    by_cases him : i < m
    · have him' : (i : Int) < (m : Int) := by omega
      have hsz : z.size + (F i).length ≤ 9000000000000000000 := by
        have h1 := HL.out
        have h2 := cat_le F him
        have h3 : z.size = (5 :: (put m ++ cat i F) : List UInt8).length := by rw [← HZ.out, Lib.size_eq]
        rw [h3]
        simp only [List.length_cons, List.length_append] at h1 ⊢
        omega
      obtain ⟨pb, po, rfl, hpb, hat⟩ := HP.out (by omega)
      have hBw : Below B w wr := (hbr).mono hB
      have h6a := (hat i him).later hpb hBw
      have d0 := h6a.c0
      have d1 := h6a.c1
      have d2 := h6a.c2
      have d3 := h6a.c3
      have d4 := h6a.c4
      have d5 := h6a.c5
      have hLi := (HR.out i him).later hBw
      have hszz := hBw.size
      have hcall := HI.out i him B wr (A i) hLi (by have := hbr.size; omega)
      obtain ⟨p, hp⟩ : ∃ p : ByteArray, (⟨(bytesT (f i)).toArray⟩ : ByteArray) = p := ⟨_, rfl⟩
      have HPL : Hid (p.data.toList = bytesT (f i)) := by show _ = _; rw [← hp]
      have hps : p.size = (bytesT (f i)).length := by rw [Lib.size_eq, HPL.out]
      rw [hp] at hcall
      clear hp
      have hFs : (F i).length = p.size := by rw [← HF.out i, hps]
      have hz3 : z.size + p.size ≤ 9223372036854775807 := by omega
      clear hps hFs hsz
      go_wp2_with fail
      refine hcall.mono ?_
      rintro e w3 ⟨rfl, hb3⟩
      have hrow3 := (hb3.block w.heap.size hlt).trans hrow
      have hbx := hbr.trans (hb3.mono (by have := hbr.size; omega))
      clear hb3 g0 g4 g5 d0 d1 d2 d3 d4 d5 hcall
      go_wp2
      go_roundw
      case rel =>
        refine ⟨i + 1, z ++ p, by omega, by go_num, rfl, ?_, hrow3, hbx⟩
        rw [ByteArray.data_append, Array.toList_append, HZ.out, HPL.out]
        show _ = 5 :: (put m ++ (cat i F ++ F i))
        rw [← HF.out i]
        simp
      case measure => simp [intOf]; omega
    · obtain rfl : i = m := by omega
      go_wp2
      go_ret
      exact ⟨congrArg (fun z => Ending.returned (Value.string z)) (str_mk HZ.out), hbr⟩
set_option maxRecDepth 20000 in
set_option maxHeartbeats 4000000 in
theorem rval_struct {w : World} {b : Bool} {n : Int} {s : ByteArray} {m : Nat} {f : Nat → Tr} {q : Nat} {g : Nat → ByteArray} {B : Nat} {x : Ad} (hL : Lies B w (.mk 6 b n s m f q g) x) (hB : B ≤ w.heap.size) (m32 : m ≤ 32) (hqm : m = q) (hok : ∀ i, i < q → okN g i = true)
    (hlen : (bytesT (.mk 6 b n s m f q g)).length ≤ 9000000000000000000) (ih : ∀ i, i < m → RvalC (f i)) :
    Calls Try.prog 16 #[(Tr.mk 6 b n s m f q g).val x] w fun e w' => e = .returned (.string ⟨(bytesT (.mk 6 b n s m f q g)).toArray⟩) ∧ Below w.heap.size w w' := by
  subst hqm
  obtain ⟨A, hp, hr⟩ := hL.part
  have hN : Names B w m g x.na x.nc := hL.lims.2.2.2.2
  clear hL
  obtain ⟨pa, pc, na, nc⟩ := x
  obtain ⟨F, hF⟩ : ∃ F : Nat → List UInt8, (fun i => textL (g i) ++ bytesT (f i)) = F := ⟨_, rfl⟩
  have hT : bytesT (.mk 6 b n s m f m g) = 6 :: (put m ++ cat m F) := by rw [bytesT, ← hF]; rfl
  rw [hT] at hlen ⊢
  have hFi : ∀ i, (textL (g i) ++ bytesT (f i)) = F i := fun i => congrFun hF i
  have HF : Hid (∀ i, (textL (g i) ++ bytesT (f i)) = F i) := hFi
  clear hT hF hFi
  have HL : Hid ((6 :: (put m ++ cat m F)).length ≤ 9000000000000000000) := hlen
  clear hlen
  have hV : (Tr.mk 6 b n s m f m g).val ⟨pa, pc, na, nc⟩ = .agg #[.int .i64 6, .bool b, .int .i64 n, .string s, .slice pa m pc, .slice na m nc] := rfl
  rw [hV]
  clear hV
  have HI : Hid (∀ i, i < m → RvalC (f i)) := ih
  clear ih
  have HP : Hid (0 < m → ∃ b o, pa = some ⟨b, o, none⟩ ∧ b < B ∧ ∀ i, i < m → At6 w b (o + i * 6) (f i) (A i)) := hp
  clear hp
  have HR : Hid (∀ i, i < m → Lies B w (f i) (A i)) := hr
  clear hr
  obtain ⟨_, _, _, hna⟩ := hN
  have HN : Hid (0 < m → ∃ b o, na = some ⟨b, o, none⟩ ∧ b < B ∧ ∀ i, i < m → w.cell? ⟨b, o + i, none⟩ = some (.string (g i))) := hna
  have HO : Hid (∀ i, i < m → okN g i = true) := hok
  clear hna hok
  have hW := IntKind.wrap_u8'
  have hcv := conv1 (w.alloc (.cells #[.int .i64 6, .bool b, .int .i64 n, .string s, .slice pa m pc, .slice na m nc] 33)) (UInt8.ofNat 6) 5 6 rfl
  rw [show (w.alloc (.cells #[.int .i64 6, .bool b, .int .i64 n, .string s, .slice pa m pc, .slice na m nc] 33)).heap.size = w.heap.size + 1 by simp] at hcv
  have hb1 : Below w.heap.size w ((w.alloc (.cells #[.int .i64 6, .bool b, .int .i64 n, .string s, .slice pa m pc, .slice na m nc] 33)).alloc (.cells #[.int .u8 6] 5)) := ((Below.refl _ w).alloc (Nat.le_refl _) _).alloc (by simp) _
  have r1 : ((w.alloc (.cells #[.int .i64 6, .bool b, .int .i64 n, .string s, .slice pa m pc, .slice na m nc] 33)).alloc (.cells #[.int .u8 6] 5)).heap[w.heap.size]? = some (.cells #[.int .i64 6, .bool b, .int .i64 n, .string s, .slice pa m pc, .slice na m nc] 33 (0, 0)) := by
    rw [Below.heap_alloc _ _ _ (by simp)]; exact heap_alloc_new _ _
  have hu := fun (W : World) => rput_any m (by omega) W
  have hl := put_len10 (n := m) (by omega)
  obtain ⟨y, hy⟩ : ∃ y : ByteArray, (⟨(put m).toArray⟩ : ByteArray) = y := ⟨_, rfl⟩
  have hz : y.size ≤ 10 := by rw [← hy, put_size]; exact hl
  have hy2 : y.data.toList = put m := by rw [← hy]
  rw [hy] at hu
  clear hy hl
  have HY : Hid (y.data.toList = put m) := hy2
  clear hy2
  have hz2 : 1 + y.size ≤ 9223372036854775807 := by omega
  have hwm : IntKind.u64.wrap (m : Int) = (m : Int) := by rw [IntKind.wrap_u64]; omega
  go_enter Try.func16, Try.ntmps16
  go_wp2_with fail
  refine (hu _).mono ?_
  rintro e w1 ⟨rfl, hbw⟩
  have B1 : Below w.heap.size w w1 := hb1.trans (hbw.mono (by simp; omega))
  have r2 := (hbw.block w.heap.size (by simp; omega)).trans r1
  clear hu hbw hb1 r1 hcv
  go_wp2_with fail
  go_loopw [3, 4] (fun c3 c4 wr => ∃ (i : Nat) (z : ByteArray), i ≤ m ∧ c4 = .int .i64 (i : Int) ∧ c3 = .string z ∧ z.data.toList = 6 :: (put m ++ cat i F) ∧ wr.heap[w.heap.size]? = some (.cells #[.int .i64 6, .bool b, .int .i64 n, .string s, .slice pa m pc, .slice na m nc] 33 (0, 0)) ∧ Below w.heap.size w wr) (fun _ c4 _ => m - (intOf c4).toNat)
  case atStart => exact ⟨0, ⟨#[6]⟩ ++ y, by omega, rfl, rfl, by rw [ByteArray.data_append, Array.toList_append, HY.out]; simp [cat], r2, B1⟩
  case round =>
    clear r2 B1
    obtain ⟨i, z, hi, rfl, rfl, hzl, hrow, hbr⟩ := hrel
    have HZ : Hid (z.data.toList = 6 :: (put m ++ cat i F)) := hzl
    clear hzl
    have g0 := cell_of_row wr _ 0 _ _ _ hrow
    have g4 := cell_of_row wr _ 4 _ _ _ hrow
    have g5 := cell_of_row wr _ 5 _ _ _ hrow
    have hlt := lt_of_row hrow
    by_cases him : i < m
    · have him' : (i : Int) < (m : Int) := by omega
      have hsz : z.size + (F i).length ≤ 9000000000000000000 := by
        have h1 := HL.out
        have h2 := cat_le F him
        have h3 : z.size = (6 :: (put m ++ cat i F) : List UInt8).length := by rw [← HZ.out, Lib.size_eq]
        rw [h3]
        simp only [List.length_cons, List.length_append] at h1 ⊢
        omega
      obtain ⟨pb, po, rfl, hpb, hat⟩ := HP.out (by omega)
      obtain ⟨nb, no, rfl, hnb, hnc⟩ := HN.out (by omega)
      have hq' : (i : Int) < (m : Int) := by omega
      have hnm := cell_later (hnc i (by omega)) (by show nb < w.heap.size; omega) hbr
      have hgs := okN_size (HO.out i (by omega))
      have htx := fun (W : World) => rtx_any (g i) (by omega) W
      have hts := textB_size (g i) (by omega)
      obtain ⟨u, hu⟩ : ∃ u, textB (g i) = u := ⟨_, rfl⟩
      have HU : Hid (u.data.toList = textL (g i)) := by show _ = _; rw [← hu]; exact textB_list _
      have hul : u.size = (textL (g i)).length := by rw [Lib.size_eq, HU.out]
      rw [hu] at htx
      clear hu hts
      have hFs : (F i).length = u.size + (bytesT (f i)).length := by rw [← HF.out i, List.length_append, hul]
      have hz3 : z.size + u.size ≤ 9223372036854775807 := by omega
      go_wp2_with fail
      refine (htx _).mono ?_
      rintro e w2 ⟨rfl, hb2⟩
      have hrow2 := (hb2.block w.heap.size hlt).trans hrow
      have hb2x := hbr.trans (hb2.mono (by have := hbr.size; omega))
      clear hb2 hrow g0 g4 g5 htx hnm hul hlt
      have g4 := cell_of_row w2 _ 4 _ _ _ hrow2
      have hlt := lt_of_row hrow2
      have hBw : Below B w w2 := (hb2x).mono hB
      have h6a := (hat i him).later hpb hBw
      have d0 := h6a.c0
      have d1 := h6a.c1
      have d2 := h6a.c2
      have d3 := h6a.c3
      have d4 := h6a.c4
      have d5 := h6a.c5
      have hLi := (HR.out i him).later hBw
      have hszz := hBw.size
      have hcall := HI.out i him B w2 (A i) hLi (by have := hb2x.size; omega)
      obtain ⟨p, hp⟩ : ∃ p : ByteArray, (⟨(bytesT (f i)).toArray⟩ : ByteArray) = p := ⟨_, rfl⟩
      have HPL : Hid (p.data.toList = bytesT (f i)) := by show _ = _; rw [← hp]
      have hps : p.size = (bytesT (f i)).length := by rw [Lib.size_eq, HPL.out]
      rw [hp] at hcall
      clear hp
      have hz4 : (z ++ u).size + p.size ≤ 9223372036854775807 := by rw [ByteArray.size_append]; omega
      have hz5 : z.size + u.size + p.size ≤ 9223372036854775807 := by omega
      clear hps hFs hsz hz3
      go_wp2_with fail
      refine hcall.mono ?_
      rintro e w3 ⟨rfl, hb3⟩
      have hrow3 := (hb3.block w.heap.size hlt).trans hrow2
      have hbx := hb2x.trans (hb3.mono (by have := hb2x.size; omega))
      clear hb3 g4 d0 d1 d2 d3 d4 d5 hcall
      go_wp2
      go_roundw
      case rel =>
        refine ⟨i + 1, z ++ u ++ p, by omega, by go_num, rfl, ?_, hrow3, hbx⟩
        rw [ByteArray.data_append, Array.toList_append, ByteArray.data_append, Array.toList_append, HZ.out, HPL.out, HU.out]
        show _ = 6 :: (put m ++ (cat i F ++ F i))
        rw [← HF.out i]
        simp
      case measure => simp [intOf]; omega
    · obtain rfl : i = m := by omega
      go_wp2
      go_ret
      exact ⟨congrArg (fun z => Ending.returned (Value.string z)) (str_mk HZ.out), hbr⟩
theorem rval_any (t : Tr) : ∀ (d : Int), 1 ≤ d → soundT t d = 0 → small t → RvalC t := by
  induction t with
  | no => exact fun _ _ _ _ _ _ _ hL => hL.no.elim
  | mk k b n s m f q g ih =>
    intro d hd h0 hsm B w x hL hB
    have hP := soundP h0
    have hlen : (bytesT (.mk k b n s m f q g)).length ≤ 9000000000000000000 := by
      have h1 := bytesT_len (.mk k b n s m f q g) (8 - d).toNat d x hL (by have := hP.d8; omega) h0 hsm
      have h2 : 33 ^ (8 - d).toNat ≤ 33 ^ 7 := Nat.pow_le_pow_right (by decide) (by omega)
      have h3 : 33 ^ 7 = 42618442977 := by decide
      omega
    have ih' : ∀ i, i < m → RvalC (f i) := fun i hi => ih i (d + 1) (by omega) (hP.ch i hi) (hsm.2 i hi)
    have k0 := hP.k0
    have k6 := hP.k6
    by_cases h4 : k ≤ 4
    · have hm : m = 0 := by
        have hf := hP.fm
        unfold formedB at hf
        simp only [Bool.and_eq_true, Bool.or_eq_true, decide_eq_true_eq] at hf
        omega
      subst hm
      exact rval_leaf hL k0 h4 hsm.1
    · by_cases h5 : k = 5
      · subst h5
        exact rval_list hL hB hP.m32 hlen ih'
      · have h6 : k = 6 := by omega
        subst h6
        exact rval_struct hL hB hP.m32 (hP.nm rfl).1.symm (hP.nm rfl).2 hlen ih'
set_option maxRecDepth 20000 in
set_option maxHeartbeats 1000000 in
theorem rcheck_any {t : Tr} {B : Nat} {w : World} {x : Ad} (hL : Lies B w t x) (hB : B ≤ w.heap.size) (hsm : small t) :
    Calls Try.prog 12 #[t.val x] w fun e w' => e = .returned (.int .i64 (checkT t)) ∧ Below w.heap.size w w' := by
  obtain ⟨C, hC⟩ : ∃ C, checkT t = C := ⟨_, rfl⟩
  rw [hC]
  have HC : Hid (checkT t = C) := hC
  clear hC
  obtain ⟨E, hE⟩ : ∃ E, soundT t 1 = E := ⟨_, rfl⟩
  have hso := fun (W : World) (hb : Below B w W) (hs : B ≤ W.heap.size) => rshape_any t 1 (by decide) (by decide) (hL.later hb) hs
  rw [hE] at hso
  have HE : Hid (soundT t 1 = E) := hE
  clear hE
  have hV : t.val x = .agg #[.int .i64 t.k, .bool t.b, .int .i64 t.n, .string t.s, .slice x.pa t.m x.pc, .slice x.na t.q x.nc] := rfl
  rw [hV] at hso ⊢
  have hbel : Below w.heap.size w (w.alloc (.cells #[.int .i64 t.k, .bool t.b, .int .i64 t.n, .string t.s, .slice x.pa t.m x.pc, .slice x.na t.q x.nc] 33)) := (Below.refl _ w).alloc (Nat.le_refl _) _
  have hrow := (heap_alloc_new w (.cells #[.int .i64 t.k, .bool t.b, .int .i64 t.n, .string t.s, .slice x.pa t.m x.pc, .slice x.na t.q x.nc] 33))
  go_enter Try.func12, Try.ntmps12
  go_wp2_with fail
  refine (hso _ (hbel.mono hB) (by simp; omega)).mono ?_
  rintro e w1 ⟨rfl, hb1⟩
  replace hrow := (hb1.block _ (by simp)).trans hrow
  replace hbel := hbel.trans (hb1.mono (by simp))
  clear hb1 hso
  by_cases h0 : E = 0
  · subst h0
    have c0 := cell_of_row _ _ 0 _ _ _ hrow
    have c1 := cell_of_row _ _ 1 _ _ _ hrow
    have c2 := cell_of_row _ _ 2 _ _ _ hrow
    have c3 := cell_of_row _ _ 3 _ _ _ hrow
    have c4 := cell_of_row _ _ 4 _ _ _ hrow
    have c5 := cell_of_row _ _ 5 _ _ _ hrow
    have hbs := rval_any t 1 (by decide) HE.out hsm B w1 x (hL.later (hbel.mono hB)) (by have := hbel.size; omega)
    obtain ⟨y, hy⟩ : ∃ y : ByteArray, (⟨(bytesT t).toArray⟩ : ByteArray) = y := ⟨_, rfl⟩
    have hyl : y.size = (bytesT t).length := by rw [← hy]; exact List.size_toArray
    rw [hy] at hbs
    clear hy
    have HY : Hid (y.size = (bytesT t).length) := hyl
    clear hyl
    go_wp2_with fail
    refine hbs.mono ?_
    rintro e w2 ⟨rfl, hb2⟩
    have hfin := hbel.trans (hb2.mono (by have := hbel.size; omega))
    clear c0 c1 c2 c3 c4 c5 hb2 hbs
    by_cases hbig : 1024 < y.size
    · have hbig' : (1024 : Int) < (y.size : Int) := by omega
      obtain rfl : C = 3 := by rw [← HC.out]; unfold checkT; rw [if_pos HE.out, ← HY.out, if_pos hbig]
      go_wp2
      go_ret
      exact ⟨rfl, hfin⟩
    · have hbig' : ¬ (1024 : Int) < (y.size : Int) := by omega
      obtain rfl : C = 0 := by rw [← HC.out]; unfold checkT; rw [if_pos HE.out, ← HY.out, if_neg hbig]
      go_wp2
      go_ret
      exact ⟨rfl, hfin⟩
  · have hc : C = E := by rw [← HC.out]; unfold checkT; rw [HE.out, if_neg h0]
    subst hc
    have h0' : (C != 0) = true := by simpa using h0
    go_wp2
    go_ret
    exact ⟨rfl, hbel⟩
end Go.Proofs.Ytjmjlijmeahmfaa
