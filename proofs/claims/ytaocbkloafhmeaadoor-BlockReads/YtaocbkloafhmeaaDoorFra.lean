/- The frame of a block (Frame), called: where its bytes are not too many for a Builder. -/
import Derived.Test.YtaocbkloafhmeaaDoorRfr
import Derived.Test.YtaocbkloafhmeaaDoorBuild
import Derived.Test.YtaocbkloafhmeaaDoorRrt
import Derived.Test.YtaocbkloafhmeaaDoorMrx
namespace Go.Proofs.YtaocbkloafhmeaaDoor
open Go.RowKit
theorem bld_later {w w' : World} {b : Nat} {l : List UInt8} (h : Bld w b l) (hb : Below w.heap.size w w') : Bld w' b l := by
  rcases h with ⟨h1, v, h2, h3, h4⟩ | ⟨h1, v, h2, h3, h4⟩
  · exact Or.inl ⟨h1, v, (hb.block _ (lt_of_row h2)).trans h2, own_laterN h3 hb, h4⟩
  · exact Or.inr ⟨h1, v, (hb.block _ (lt_of_row h2)).trans h2, own_laterN h3 hb, h4⟩
theorem bld_lt {w : World} {b : Nat} {l : List UInt8} (h : Bld w b l) : b < w.heap.size := by
  rcases h with ⟨_, v, h2, _⟩ | ⟨_, v, h2, _⟩
  · exact lt_of_row h2
  · exact lt_of_row h2
set_option maxRecDepth 100000 in
set_option maxHeartbeats 4000000 in
theorem frame_any (x : Bk) (hx : x.fit) (hn : x.n ≤ 66) (hfs : ∀ i, i ≤ x.n → (frameS x i).size ≤ 1000000000) (p : Option Addr) (c : Nat) (w : World) (hX : Revs w p x.n c x.R) :
    Calls Tryd.prog 27 #[x.val p c] w fun e w' => e = .returned (.string (frameT x)) ∧ Below w.heap.size w w' := by
  have kh := fun W => head_any x hx (by omega) p c W
  have hf0 : frameS x 0 = headT x := rfl
  have hfn : ∀ i, frameS x (i + 1) = frameS x i ++ metaT (x.R i) := fun _ => rfl
  have hne : ∀ i, (frameS x i).data.toList ≠ [] := fun i => by
    have h0 : 0 < (frameS x 0).size := by
      show 0 < (headT x).size
      unfold headT
      simp only [ByteArray.size_append]
      have := put_len_pos x.seq
      have h2 : (putS x.seq).size = (put x.seq).length := put_size x.seq
      omega
    have h1 : ∀ i, 0 < (frameS x i).size := fun i => by
      induction i with
      | zero => exact h0
      | succ i ih => rw [hfn, ByteArray.size_append]; omega
    intro h
    have := h1 i
    rw [Lib.size_eq, h] at this
    exact absurd this (by decide)
  rw [show frameT x = frameS x x.n from rfl]
  obtain ⟨hd, hhd⟩ : ∃ hd, headT x = hd := ⟨_, rfl⟩
  obtain ⟨fS, hfS⟩ : ∃ fS, frameS x = fS := ⟨_, rfl⟩
  rw [hfS] at hfs hf0 ⊢
  simp only [hfS] at hfn hne
  rw [hhd] at kh hf0
  clear hfS hhd hx
  obtain ⟨seq, prev, tx, n, R⟩ := x
  simp only at hX hfs hfn hn ⊢
  rw [show (Bk.mk seq prev tx n R).val p c = .agg #[.int .u64 (seq : Int), .string prev, .int .u64 (tx : Int), .slice p n c] from rfl] at kh ⊢
  have HF0 : Hid (fS 0 = hd) := hf0
  have HFN : Hid (∀ i, fS (i + 1) = fS i ++ metaT (R i)) := hfn
  have HFS : Hid (∀ i, i ≤ n → (fS i).size ≤ 1000000000) := hfs
  have HNE : Hid (∀ i, (fS i).data.toList ≠ []) := hne
  clear hf0 hfn hfs hne
  have hcap := hX.cap
  have hmx : maxLen = 9223372036854775807 := rfl
  go_enter Tryd.func27, Tryd.ntmps27
  go_wp2_with fail
  have b0 : ∀ o o', Below w.heap.size w ((w.alloc o).alloc o') := fun o o' => ((Below.refl _ w).alloc (Nat.le_refl _) _).alloc (by simp) _
  have hB0 := bld_new (w.alloc (.cells #[.int .u64 (seq : Int), .string prev, .int .u64 (tx : Int), .slice p n c] 38))
  rw [World.size_alloc] at hB0
  refine (kh _).mono ?_
  rintro e w1 ⟨rfl, hb1⟩
  have hrow1 := (hb1.block w.heap.size (by simp; omega)).trans ((Below.heap_alloc _ _ _ (by simp)).trans (heap_alloc_new w (.cells #[.int .u64 (seq : Int), .string prev, .int .u64 (tx : Int), .slice p n c] 38)))
  have hB1 := bld_later hB0 hb1
  have bw1 := (b0 _ _).trans (hb1.mono (by simp; omega))
  clear hB0 hb1 kh
  go_wp2_with fail
  refine (b_text (w.heap.size + 1) [] hd w1 hB1 (by simp) (by have := HFS.out 0 (by omega); rw [HF0.out] at this; omega)).mono ?_
  rintro e w2 ⟨rfl, hB2, hb2, _⟩
  have hrow2 := (hb2.block w.heap.size (by omega)).trans hrow1
  have bw2 : Below w.heap.size w w2 := bw1.trans (hb2.mono (by omega))
  have c3 := cell_of_row w2 _ 3 _ _ _ hrow2
  rw [List.nil_append, ← HF0.out] at hB2
  clear hrow1 hB1 bw1 hb2
  go_wp2_with fail
  go_loopw [12] (fun vi wr => ∃ i : Nat, i ≤ n ∧ vi = .int .i64 (i : Int) ∧ Bld wr (w.heap.size + 1) (fS i).data.toList ∧ Below w.heap.size w wr) (fun vi _ => n - (intOf vi).toNat)
  case atStart => exact ⟨0, Nat.zero_le _, rfl, hB2, bw2⟩
  case round =>
    clear hB2 bw2 c3 hrow2
    obtain ⟨i, hin, rfl, hB, hbr⟩ := hrel
    have hsz := hbr.size
    have hbl := bld_lt hB
    by_cases him : i < n
    · have him' : (i : Int) < (n : Int) := by omega
      obtain ⟨pb, po, rfl, hpb, hat⟩ := hX.at' (by omega)
      have h8 := (hat i him).kept (hbr.block pb hpb)
      have d0 := h8.c0
      have d1 := h8.c1
      have d2 := h8.c2
      have d3 := h8.c3
      have d4 := h8.c4
      have d5 := h8.c5
      have d6 := h8.c6
      have d7 := h8.c7
      have hmt := fun W => meta_any (R i) (hX.fit i him) W
      have u1 := HFS.out (i + 1) (by omega)
      rw [HFN.out i, ByteArray.size_append] at u1
      have u2 : (fS i).data.toList.length ≤ 35184372088832 := by rw [← Lib.size_eq]; omega
      have u3 : (metaT (R i)).size ≤ 35184372088832 := by omega
      clear u1
      have HN : Hid (fS (i + 1) = fS i ++ metaT (R i)) := HFN.out i
      obtain ⟨mt, hmm⟩ : ∃ mt, metaT (R i) = mt := ⟨_, rfl⟩
      rw [hmm] at hmt u3 HN
      clear hmm
      go_wp2_with fail
      refine (hmt _).mono ?_
      rintro e w3 ⟨rfl, hb3⟩
      have bx : Below wr.heap.size wr w3 := ((Below.refl _ wr).alloc (Nat.le_refl _) _).trans (hb3.mono (by simp))
      have hB3 := bld_later hB bx
      have bw3 := hbr.trans (bx.mono hsz)
      clear hb3 bx hmt
      go_wp2_with fail
      refine (b_text (w.heap.size + 1) (fS i).data.toList mt w3 hB3 u2 u3).mono ?_
      rintro e w4 ⟨rfl, hB4, hb4, _⟩
      have bw4 : Below w.heap.size w w4 := bw3.trans (hb4.mono (by omega))
      go_wp2
      go_roundw
      case rel => exact ⟨i + 1, by omega, by go_num, by rw [HN.out, ByteArray.data_append, Array.toList_append]; exact hB4, bw4⟩
      case measure => simp [intOf]; omega
    · obtain rfl : i = n := by omega
      go_wp2_with fail
      refine (b_string (w.heap.size + 1) (fS i).data.toList wr hB (HNE.out i)).mono ?_
      rintro e w5 ⟨rfl, hb5⟩
      go_wp2
      go_ret
      exact ⟨rfl, hbr.trans (hb5.mono (by omega))⟩
end Go.Proofs.YtaocbkloafhmeaaDoor
