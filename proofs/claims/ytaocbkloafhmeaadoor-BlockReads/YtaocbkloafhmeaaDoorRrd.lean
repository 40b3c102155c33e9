/- The document's Read, called: of any bytes the answer is the same as the program's. -/
import Derived.Test.YtaocbkloafhmeaaDoorRdd
import Derived.Test.YtaocbkloafhmeaaDoorRch
import Derived.Test.YtaocbkloafhmeaaDoorWou
namespace Go.Proofs.YtaocbkloafhmeaaDoor
open Go.RowKit
theorem if_self0 (x : Int) : x = if x ≠ 0 then x else 0 := by
  by_cases h : x = 0
  · rw [h]; rfl
  · rw [if_pos h]
theorem fe_stays {R : Nat → Rv} {m : Nat} (h : fe R m ≠ 0) : ∀ k, m ≤ k → fe R k = fe R m
  | 0, hk => by
    obtain rfl : m = 0 := by omega
    rfl
  | k + 1, hk => by
    by_cases e : m = k + 1
    · rw [e]
    · have ih := fe_stays h k (by omega)
      show (if fe R k = 0 then checkR (R k) else fe R k) = _
      rw [if_neg (by rw [ih]; exact h), ih]
theorem hidI {p : Prop} (h : p) : Hid p := h
set_option maxRecDepth 100000 in
set_option maxHeartbeats 8000000 in
theorem rread_any (s : ByteArray) (hs : s.size ≤ 1125899906842624) (w : World) :
    Calls Tryd.prog 31 #[.string s] w fun e w' => ∃ (X : Bk) (q : Option Addr) (d : Nat), e = .returned (.tuple #[X.val q d, .int .i64 (readE s)]) ∧ (readE s = 0 → X = readX s ∧ Revs w' q X.n d X.R) ∧ Below w.heap.size w w' := by
  have hs' : s.size ≤ 72057594037927936 := by omega
  have k0 := fun W => ruint_at s 0 0 (Nat.zero_le _) hs' W
  have k1 := fun W => rtext_at s (hd0 s).o (hd0 s).e 32 (uintA_o (Nat.zero_le _)) hs' W
  have k2 := fun W => ruint_at s (hd1 s).o (hd1 s).e (textA_o (uintA_o (Nat.zero_le _))) hs' W
  have k3 := fun W => rcount_at s (hd2 s).o (hd2 s).e 64 (uintA_o (textA_o (uintA_o (Nat.zero_le _)))) hs' (by decide) W
  have hK64 : (hd3 s).v ≤ 64 := countA_v
  have hX0 : readX s = ⟨(hd0 s).v, (hd1 s).v, (hd2 s).v, (hd3 s).v, rrv s⟩ := rfl
  have hz0 : rst s 0 = ⟨(hd3 s).o, (hd3 s).e⟩ := rfl
  have hE0 : endE s = if (rst s (hd3 s).v).e ≠ 0 then (rst s (hd3 s).v).e else if (rst s (hd3 s).v).o < s.size then 5 else 0 := rfl
  have hF0 : readE s = if endE s ≠ 0 then endE s else fe (rrv s) (hd3 s).v := rfl
  rw [show uintA s 0 0 = hd0 s from rfl] at k0
  rw [show textA s (hd0 s).o (hd0 s).e 32 = hd1 s from rfl] at k1
  rw [show uintA s (hd1 s).o (hd1 s).e = hd2 s from rfl] at k2
  rw [show countA s (hd2 s).o (hd2 s).e 64 = hd3 s from rfl] at k3
  obtain ⟨⟨n0, p0, e0⟩, h0⟩ : ∃ x, hd0 s = x := ⟨_, rfl⟩
  obtain ⟨⟨t1, p1, e1⟩, h1⟩ : ∃ x, hd1 s = x := ⟨_, rfl⟩
  obtain ⟨⟨n2, p2, e2⟩, h2⟩ : ∃ x, hd2 s = x := ⟨_, rfl⟩
  obtain ⟨⟨K, p3, e3⟩, h3⟩ : ∃ x, hd3 s = x := ⟨_, rfl⟩
  rw [h0] at k0 k1 hX0
  rw [h1] at k1 k2 hX0
  rw [h2] at k2 k3 hX0
  rw [h3] at k3 hK64 hX0 hz0 hE0 hF0
  simp only at k0 k1 k2 k3 hK64 hX0 hz0 hE0 hF0
  clear h0 h1 h2 h3
  have HX : Hid (readX s = ⟨n0, t1, n2, K, rrv s⟩) := hX0
  have HZ : Hid (rst s 0 = ⟨p3, e3⟩) := hz0
  have HE : Hid (endE s = if (rst s K).e ≠ 0 then (rst s K).e else if (rst s K).o < s.size then 5 else 0) := hE0
  have HF : Hid (readE s = if endE s ≠ 0 then endE s else fe (rrv s) K) := hF0
  obtain ⟨RE, hRE⟩ : ∃ x, readE s = x := ⟨_, rfl⟩
  have HRE : Hid (readE s = RE) := hRE
  rw [hRE]
  obtain ⟨Po, hPo⟩ : ∃ Po : Ending → World → Prop, Po = fun e w' => ∃ (X : Bk) (q : Option Addr) (d : Nat), e = .returned (.tuple #[X.val q d, .int .i64 RE]) ∧ (RE = 0 → X = readX s ∧ Revs w' q X.n d X.R) ∧ Below w.heap.size w w' := ⟨_, rfl⟩
  rw [← hPo]
  have HP : Hid (Po = fun e w' => ∃ (X : Bk) (q : Option Addr) (d : Nat), e = .returned (.tuple #[X.val q d, .int .i64 RE]) ∧ (RE = 0 → X = readX s ∧ Revs w' q X.n d X.R) ∧ Below w.heap.size w w') := hPo
  clear hX0 hz0 hE0 hF0 hRE hPo
  go_enter Tryd.func31, Tryd.ntmps31
  go_wp2_with fail
  refine (k0 _).mono ?_
  rintro e w1 ⟨rfl, hb1⟩
  have b2 : Below w.heap.size w ((w.alloc (.cells #[.int .u64 0, .string ⟨#[]⟩, .int .u64 0, .slice none 0 0] 41)).alloc (.cells #[.int .u64 0, .string ⟨#[]⟩, .int .u64 0, .slice none 0 0] 41)) := below_two w _ _
  have hq0 := (row_call (w := w) (w1 := w1) _ _ hb1).1
  have hq1 := (row_call (w := w) (w1 := w1) _ _ hb1).2
  have b1 := b2.trans (hb1.mono (by simp; omega))
  have sz1 := lt_of_row hq1
  clear b2 hb1 k0
  go_upto_region 3 with fail
  obtain ⟨wa, hwa⟩ : ∃ wa, w1.alloc (.cells #[.string s, .int .i64 (p0 : Int), .int .i64 e0] 91) = wa := ⟨_, rfl⟩
  rw [hwa]
  obtain ⟨V, hV⟩ : ∃ V, w1.heap.size = V := ⟨_, rfl⟩
  have ba : Below w1.heap.size w1 wa := by rw [← hwa]; exact (Below.refl _ _).alloc (Nat.le_refl _) _
  have D : RD w wa V s p0 e0 0 ⟨#[]⟩ 0 (rrv s) 0 (.slice none 0 0) := ⟨cell_later4 ba hq0, cell_later4 ba hq1, by rw [← hwa, ← hV]; exact heap_alloc_new _ _, World.ownsRow_nil _ _ _ _, b1.trans (ba.mono b1.size), by omega⟩
  rw [hV]
  clear hwa ba hq0 hq1 b1 sz1 hV
  have ne1 : ¬ V = w.heap.size + 1 := by have := D.hv; omega
  have ne2 : ¬ w.heap.size + 1 = V := by have := D.hv; omega
  have x0 := cell_of_row wa (w.heap.size + 1) 0 _ _ _ D.r1
  have xf0 := frozen_of_row wa (w.heap.size + 1) 0 _ _ D.r1
  go_upto_region 4 with fail
  obtain ⟨wb, hwb⟩ : ∃ wb, wa.setCell ⟨w.heap.size + 1, 0, none⟩ (.int .u64 (n0 : Int)) = wb := ⟨_, rfl⟩
  rw [hwb]
  have D2 : RD w wb V s p0 e0 n0 ⟨#[]⟩ 0 (rrv s) 0 (.slice none 0 0) := by rw [← hwb]; exact D.setb 0 _ rfl (World.ownsRow_nil _ _ _ _)
  clear hwb D x0 xf0
  have y0 := cell_of_row wb V 0 _ _ _ D2.rc
  have yf0 := frozen_of_row wb V 0 _ _ D2.rc
  have y1 := cell_of_row wb V 1 _ _ _ D2.rc
  have yf1 := frozen_of_row wb V 1 _ _ D2.rc
  have y2 := cell_of_row wb V 2 _ _ _ D2.rc
  have yf2 := frozen_of_row wb V 2 _ _ D2.rc
  go_wp2_with fail
  refine (k1 _).mono ?_
  rintro e wx ⟨rfl, hbx⟩
  have Dx := D2.later hbx
  clear y0 yf0 y1 yf1 y2 yf2 D2 hbx k1
  have y0 := cell_of_row wx V 0 _ _ _ Dx.rc
  have yf0 := frozen_of_row wx V 0 _ _ Dx.rc
  have y1 := cell_of_row wx V 1 _ _ _ Dx.rc
  have yf1 := frozen_of_row wx V 1 _ _ Dx.rc
  have y2 := cell_of_row wx V 2 _ _ _ Dx.rc
  have yf2 := frozen_of_row wx V 2 _ _ Dx.rc
  have x1 := cell_of_row wx (w.heap.size + 1) 1 _ _ _ Dx.r1
  have xf1 := frozen_of_row wx (w.heap.size + 1) 1 _ _ Dx.r1
  go_upto_region 5 with fail
  obtain ⟨wc, hwy⟩ : ∃ wy, (st3 wx V s p1 e1).setCell ⟨w.heap.size + 1, 1, none⟩ (.string t1) = wy := ⟨_, rfl⟩
  have hwz := hwy
  unfold st3 at hwz
  rw [hwz]
  have D3 : RD w wc V s p1 e1 n0 t1 0 (rrv s) 0 (.slice none 0 0) := by rw [← hwy]; exact (Dx.setc p1 e1).setb 1 _ rfl (World.ownsRow_nil _ _ _ _)
  clear hwy hwz Dx y0 yf0 y1 yf1 y2 yf2 x1 xf1
  have y0 := cell_of_row wc V 0 _ _ _ D3.rc
  have yf0 := frozen_of_row wc V 0 _ _ D3.rc
  have y1 := cell_of_row wc V 1 _ _ _ D3.rc
  have yf1 := frozen_of_row wc V 1 _ _ D3.rc
  have y2 := cell_of_row wc V 2 _ _ _ D3.rc
  have yf2 := frozen_of_row wc V 2 _ _ D3.rc
  go_wp2_with fail
  refine (k2 _).mono ?_
  rintro e wx ⟨rfl, hbx⟩
  have Dx := D3.later hbx
  clear y0 yf0 y1 yf1 y2 yf2 D3 hbx k2
  have y0 := cell_of_row wx V 0 _ _ _ Dx.rc
  have yf0 := frozen_of_row wx V 0 _ _ Dx.rc
  have y1 := cell_of_row wx V 1 _ _ _ Dx.rc
  have yf1 := frozen_of_row wx V 1 _ _ Dx.rc
  have y2 := cell_of_row wx V 2 _ _ _ Dx.rc
  have yf2 := frozen_of_row wx V 2 _ _ Dx.rc
  have x2 := cell_of_row wx (w.heap.size + 1) 2 _ _ _ Dx.r1
  have xf2 := frozen_of_row wx (w.heap.size + 1) 2 _ _ Dx.r1
  go_upto_region 6 with fail
  obtain ⟨wd, hwy⟩ : ∃ wy, (st3 wx V s p2 e2).setCell ⟨w.heap.size + 1, 2, none⟩ (.int .u64 (n2 : Int)) = wy := ⟨_, rfl⟩
  have hwz := hwy
  unfold st3 at hwz
  rw [hwz]
  have D4 : RD w wd V s p2 e2 n0 t1 n2 (rrv s) 0 (.slice none 0 0) := by rw [← hwy]; exact (Dx.setc p2 e2).setb 2 _ rfl (World.ownsRow_nil _ _ _ _)
  clear hwy hwz Dx y0 yf0 y1 yf1 y2 yf2 x2 xf2
  have y0 := cell_of_row wd V 0 _ _ _ D4.rc
  have yf0 := frozen_of_row wd V 0 _ _ D4.rc
  have y1 := cell_of_row wd V 1 _ _ _ D4.rc
  have yf1 := frozen_of_row wd V 1 _ _ D4.rc
  have y2 := cell_of_row wd V 2 _ _ _ D4.rc
  have yf2 := frozen_of_row wd V 2 _ _ D4.rc
  go_wp2_with fail
  refine (k3 _).mono ?_
  rintro e wx ⟨rfl, hbx⟩
  have Dx := D4.later hbx
  clear y0 yf0 y1 yf1 y2 yf2 D4 hbx k3
  have y0 := cell_of_row wx V 0 _ _ _ Dx.rc
  have yf0 := frozen_of_row wx V 0 _ _ Dx.rc
  have y1 := cell_of_row wx V 1 _ _ _ Dx.rc
  have yf1 := frozen_of_row wx V 1 _ _ Dx.rc
  have y2 := cell_of_row wx V 2 _ _ _ Dx.rc
  have yf2 := frozen_of_row wx V 2 _ _ Dx.rc
  go_upto_region 7 with fail
  obtain ⟨we, hwy⟩ : ∃ wy, st3 wx V s p3 e3 = wy := ⟨_, rfl⟩
  have hwz := hwy
  unfold st3 at hwz
  rw [hwz]
  have D5 : RD w we V s p3 e3 n0 t1 n2 (rrv s) 0 (.slice none 0 0) := by rw [← hwy]; exact Dx.setc p3 e3
  clear hwy hwz Dx y0 yf0 y1 yf1 y2 yf2
  have ne3 : w.heap.size + 2 ≤ V := D5.hv
  have D5' : RD w we V s (rst s 0).o (rst s 0).e n0 t1 n2 (rrv s) 0 (.slice none 0 0) := by rw [HZ.out]; exact D5
  obtain ⟨i30, hi, hz0, hz1, hz2⟩ := info_parts info30r
  clear D5
  go_wp2
  go_loopw [8, 9, 10, 11] (fun v8 _ _ _ wr => ∃ (j : Nat) (va : Value), v8 = .int .i64 (j : Int) ∧ j ≤ K ∧ Hid (∀ t, t < j → (rst s t).e = 0) ∧ Hid (RD w wr V s (rst s j).o (rst s j).e n0 t1 n2 (rrv s) j va)) (fun v8 _ _ _ _ => K - (intOf v8).toNat)
  case atStart => exact ⟨0, .slice none 0 0, rfl, Nat.zero_le _, (fun t ht => absurd ht (Nat.not_lt_zero _) : ∀ t, t < 0 → (rst s t).e = 0), D5'⟩
  case round =>
    clear D5'
    obtain ⟨j, va, rfl, hjK, HB, HD⟩ := hrel
    have D := HD.out
    have hoj := rst_o s j
    have hnext : rst s (j + 1) = ⟨(takeR s (rst s j).o (rst s j).e).o, (takeR s (rst s j).o (rst s j).e).e⟩ := rfl
    have hrv : rrv s j = (takeR s (rst s j).o (rst s j).e).r := rfl
    have HEJ : Hid ((rst s j).e = (rst s j).e) := rfl
    obtain ⟨⟨oj, ej⟩, hj⟩ : ∃ x, rst s j = x := ⟨_, rfl⟩
    rw [hj] at D hoj hnext hrv
    simp only at D hoj hnext hrv
    have HJ : Hid (rst s j = ⟨oj, ej⟩) := hj
    clear hj HD HEJ
    by_cases hgo : j < K ∧ ej = 0
    · obtain ⟨hlt, rfl⟩ := hgo
      have hlt' : (j : Int) < (K : Int) := by omega
      have ho1 : (bytesA s oj 0 1).o ≤ s.size := bytesA_o hoj
      have q0 := fun W => rbytes_at s oj 0 1 hoj hs' W
      have q1 := fun W => rtext_at s (bytesA s oj 0 1).o (bytesA s oj 0 1).e 16 ho1 hs' W
      have hbe := bytes1_e (s := s) (o := oj)
      simp only [takeR] at hnext hrv
      obtain ⟨⟨v0, o1, x1⟩, h1⟩ : ∃ x, bytesA s oj 0 1 = x := ⟨_, rfl⟩
      rw [h1] at q0 q1 hbe ho1 hnext hrv
      simp only at q0 q1 hbe ho1 hnext hrv
      have ho2 := textA_o (er := x1) (m := 16) ho1
      have q2 := fun W => rtext_at s (textA s o1 x1 16).o (textA s o1 x1 16).e 16 ho2 hs' W
      obtain ⟨⟨v1, o2, x2⟩, h2⟩ : ∃ x, textA s o1 x1 16 = x := ⟨_, rfl⟩
      rw [h2] at q1 q2 ho2 hnext hrv
      simp only at q1 q2 ho2 hnext hrv
      have ho3 := textA_o (er := x2) (m := 16) ho2
      have q3 := fun W => ruint_at s (textA s o2 x2 16).o (textA s o2 x2 16).e ho3 hs' W
      obtain ⟨⟨v2, o3, x3⟩, h3⟩ : ∃ x, textA s o2 x2 16 = x := ⟨_, rfl⟩
      rw [h3] at q2 q3 ho3 hnext hrv
      simp only at q2 q3 ho3 hnext hrv
      have ho4 := uintA_o (er := x3) ho3
      have q4 := fun W => ruint_at s (uintA s o3 x3).o (uintA s o3 x3).e ho4 hs' W
      obtain ⟨⟨v3, o4, x4⟩, h4⟩ : ∃ x, uintA s o3 x3 = x := ⟨_, rfl⟩
      rw [h4] at q3 q4 ho4 hnext hrv
      simp only at q3 q4 ho4 hnext hrv
      have ho5 := uintA_o (er := x4) ho4
      have q5 := fun W => rtext_at s (uintA s o4 x4).o (uintA s o4 x4).e 32 ho5 hs' W
      obtain ⟨⟨v4, o5, x5⟩, h5⟩ : ∃ x, uintA s o4 x4 = x := ⟨_, rfl⟩
      rw [h5] at q4 q5 ho5 hnext hrv
      simp only at q4 q5 ho5 hnext hrv
      obtain ⟨⟨v5, o6, x6⟩, h6⟩ : ∃ x, textA s o5 x5 32 = x := ⟨_, rfl⟩
      rw [h6] at q5 hnext hrv
      simp only at q5 hnext hrv
      have HN : Hid (rst s (j + 1) = ⟨o6, x6⟩) := hnext
      have HR : Hid (rrv s j = ⟨opA v0, v1, v2, v3, v4, v5, ⟨#[]⟩, bodied (opA v0)⟩) := hrv
      clear h1 h2 h3 h4 h5 h6 hnext hrv ho1 ho2 ho3 ho4 ho5 hoj
      have y0 := cell_of_row wr V 0 _ _ _ D.rc
      have yf0 := frozen_of_row wr V 0 _ _ D.rc
      have y1 := cell_of_row wr V 1 _ _ _ D.rc
      have yf1 := frozen_of_row wr V 1 _ _ D.rc
      have y2 := cell_of_row wr V 2 _ _ _ D.rc
      have yf2 := frozen_of_row wr V 2 _ _ D.rc
      have a0 : ∀ o, (wr.alloc o).cell? ⟨V, 0, none⟩ = some (.string s) := fun o => cell_kept y0 (Below.heap_alloc wr o V D.lt.1)
      have a1 : ∀ o, (wr.alloc o).cell? ⟨V, 1, none⟩ = some (.int .i64 (oj : Int)) := fun o => cell_kept y1 (Below.heap_alloc wr o V D.lt.1)
      have a2 : ∀ o, (wr.alloc o).cell? ⟨V, 2, none⟩ = some (.int .i64 0) := fun o => cell_kept y2 (Below.heap_alloc wr o V D.lt.1)
      go_wp2_with fail
      refine (q0 _).mono ?_
      rintro e wx ⟨rfl, hbx⟩
      have bal : Below wr.heap.size wr (wr.alloc (.cells #[.int .i64 0, .string ⟨#[]⟩, .string ⟨#[]⟩, .int .u64 0, .int .u64 0, .string ⟨#[]⟩, .string ⟨#[]⟩, .bool false] 30)) := (Below.refl _ _).alloc (Nat.le_refl _) _
      have rr0 := cell_later4 hbx (heap_alloc_new wr (.cells #[.int .i64 0, .string ⟨#[]⟩, .string ⟨#[]⟩, .int .u64 0, .int .u64 0, .string ⟨#[]⟩, .string ⟨#[]⟩, .bool false] 30))
      have Dx := (D.later bal).later hbx
      have lvv := D.lt
      obtain ⟨br, hbr⟩ : ∃ br, wr.heap.size = br := ⟨_, rfl⟩
      rw [hbr] at rr0 lvv
      simp only [hbr]
      clear y0 y1 y2 yf0 yf1 yf2 a0 a1 a2 D bal hbx q0
      go_upto_region 12 with fail
      obtain ⟨wy, hwy⟩ : ∃ wy, wx.alloc (.cells #[.string s, .int .i64 (o1 : Int), .int .i64 x1] 91) = wy := ⟨_, rfl⟩
      have byy : Below wx.heap.size wx wy := by rw [← hwy]; exact (Below.refl _ _).alloc (Nat.le_refl _) _
      have rdy : wy.heap[wx.heap.size]? = some (.cells #[.string s, .int .i64 (o1 : Int), .int .i64 x1] 91 (0, 0)) := by rw [← hwy]; exact heap_alloc_new _ _
      have lbd := lt_of_row rr0
      rw [hwy]
      obtain ⟨bd, hbd⟩ : ∃ bd, wx.heap.size = bd := ⟨_, rfl⟩
      rw [hbd] at rdy lbd ⊢
      have T0 : RT w wy V s oj 0 n0 t1 n2 (rrv s) j va br #[.int .i64 0, .string ⟨#[]⟩, .string ⟨#[]⟩, .int .u64 0, .int .u64 0, .string ⟨#[]⟩, .string ⟨#[]⟩, .bool false] bd o1 x1 := ⟨Dx.later byy, cell_later4 byy rr0, rdy, lvv.1, lvv.2, lbd⟩
      clear hwy byy rdy rr0 Dx hbd
      have lvb := T0.lv
      have m1 : ¬ bd = br := by omega
      have m2 : ¬ br = bd := by omega
      have m3 : ¬ V = br := by omega
      have m4 : ¬ V = bd := by omega
      have m5 : ¬ br = V := by omega
      have m6 : ¬ bd = V := by omega
      have m7 : ¬ bd = w.heap.size + 1 := by omega
      have m8 : ¬ br = w.heap.size + 1 := by omega
      have m9 : ¬ w.heap.size + 1 = bd := by omega
      have m0 : ¬ w.heap.size + 1 = br := by omega
      have y2 := cell_of_row wy bd 2 _ _ _ T0.rd
      have yf2 := frozen_of_row wy bd 2 _ _ T0.rd
      have x0 := cell_of_row wy br 0 _ _ _ T0.rr
      have xf0 := frozen_of_row wy br 0 _ _ T0.rr
      by_cases hx1 : x1 = 0
      · have hv0 := hbe.1 hx1
        subst hx1
        have hop0 : opA v0 = chr v0 0 := if_neg hv0
        have hch := chr_eq v0 0 (by omega)
        have hz00 : (0 : Int) < (v0.size : Int) := by omega
        have hlo : 0 ≤ chr v0 0 := by unfold chr; omega
        have hhi : chr v0 0 < 256 := by unfold chr byteAt; have := (v0.data.toList.getD 0 0).toNat_lt; omega
        go_upto_region 14 with fail
        rw [← hop0]
        obtain ⟨wz, hwy⟩ : ∃ wz, wy.setCell ⟨br, 0, none⟩ (.int .i64 (opA v0)) = wz := ⟨_, rfl⟩
        rw [hwy]
        have T1 : RT w wz V s oj 0 n0 t1 n2 (rrv s) j va br #[.int .i64 (opA v0), .string ⟨#[]⟩, .string ⟨#[]⟩, .int .u64 0, .int .u64 0, .string ⟨#[]⟩, .string ⟨#[]⟩, .bool false] bd o1 0 := by rw [← hwy]; exact T0.setr 0 _
        clear hwy T0 hbe hch hlo hhi hop0 hv0 hz00 y2 yf2 x0 xf0
        have y0 := cell_of_row wz bd 0 _ _ _ T1.rd
        have yf0 := frozen_of_row wz bd 0 _ _ T1.rd
        have y1 := cell_of_row wz bd 1 _ _ _ T1.rd
        have yf1 := frozen_of_row wz bd 1 _ _ T1.rd
        have y2 := cell_of_row wz bd 2 _ _ _ T1.rd
        have yf2 := frozen_of_row wz bd 2 _ _ T1.rd
        go_wp2_with fail
        refine (q1 _).mono ?_
        rintro e wx ⟨rfl, hbx⟩
        have Tx := T1.later hbx
        clear y0 yf0 y1 yf1 y2 yf2 T1 hbx q1
        have y0 := cell_of_row wx bd 0 _ _ _ Tx.rd
        have yf0 := frozen_of_row wx bd 0 _ _ Tx.rd
        have y1 := cell_of_row wx bd 1 _ _ _ Tx.rd
        have yf1 := frozen_of_row wx bd 1 _ _ Tx.rd
        have y2 := cell_of_row wx bd 2 _ _ _ Tx.rd
        have yf2 := frozen_of_row wx bd 2 _ _ Tx.rd
        have x1 := cell_of_row wx br 1 _ _ _ Tx.rr
        have xf1 := frozen_of_row wx br 1 _ _ Tx.rr
        go_upto_region 15 with fail
        obtain ⟨w2, hwy⟩ : ∃ wy, stp wx bd s o2 x2 br 1 (.string v1) = wy := ⟨_, rfl⟩
        have hwz := hwy
        unfold stp at hwz
        rw [hwz]
        have T2 : RT w w2 V s oj 0 n0 t1 n2 (rrv s) j va br #[.int .i64 (opA v0), .string v1, .string ⟨#[]⟩, .int .u64 0, .int .u64 0, .string ⟨#[]⟩, .string ⟨#[]⟩, .bool false] bd o2 x2 := by rw [← hwy]; exact Tx.stp o2 x2 1 (.string v1)
        clear hwy hwz Tx y0 yf0 y1 yf1 y2 yf2 x1 xf1
        have y0 := cell_of_row w2 bd 0 _ _ _ T2.rd
        have yf0 := frozen_of_row w2 bd 0 _ _ T2.rd
        have y1 := cell_of_row w2 bd 1 _ _ _ T2.rd
        have yf1 := frozen_of_row w2 bd 1 _ _ T2.rd
        have y2 := cell_of_row w2 bd 2 _ _ _ T2.rd
        have yf2 := frozen_of_row w2 bd 2 _ _ T2.rd
        go_wp2_with fail
        refine (q2 _).mono ?_
        rintro e wx ⟨rfl, hbx⟩
        have Tx := T2.later hbx
        clear y0 yf0 y1 yf1 y2 yf2 T2 hbx q2
        have y0 := cell_of_row wx bd 0 _ _ _ Tx.rd
        have yf0 := frozen_of_row wx bd 0 _ _ Tx.rd
        have y1 := cell_of_row wx bd 1 _ _ _ Tx.rd
        have yf1 := frozen_of_row wx bd 1 _ _ Tx.rd
        have y2 := cell_of_row wx bd 2 _ _ _ Tx.rd
        have yf2 := frozen_of_row wx bd 2 _ _ Tx.rd
        have x2 := cell_of_row wx br 2 _ _ _ Tx.rr
        have xf2 := frozen_of_row wx br 2 _ _ Tx.rr
        go_upto_region 16 with fail
        obtain ⟨w3, hwy⟩ : ∃ wy, stp wx bd s o3 x3 br 2 (.string v2) = wy := ⟨_, rfl⟩
        have hwz := hwy
        unfold stp at hwz
        rw [hwz]
        have T3 : RT w w3 V s oj 0 n0 t1 n2 (rrv s) j va br #[.int .i64 (opA v0), .string v1, .string v2, .int .u64 0, .int .u64 0, .string ⟨#[]⟩, .string ⟨#[]⟩, .bool false] bd o3 x3 := by rw [← hwy]; exact Tx.stp o3 x3 2 (.string v2)
        clear hwy hwz Tx y0 yf0 y1 yf1 y2 yf2 x2 xf2
        have y0 := cell_of_row w3 bd 0 _ _ _ T3.rd
        have yf0 := frozen_of_row w3 bd 0 _ _ T3.rd
        have y1 := cell_of_row w3 bd 1 _ _ _ T3.rd
        have yf1 := frozen_of_row w3 bd 1 _ _ T3.rd
        have y2 := cell_of_row w3 bd 2 _ _ _ T3.rd
        have yf2 := frozen_of_row w3 bd 2 _ _ T3.rd
        go_wp2_with fail
        refine (q3 _).mono ?_
        rintro e wx ⟨rfl, hbx⟩
        have Tx := T3.later hbx
        clear y0 yf0 y1 yf1 y2 yf2 T3 hbx q3
        have y0 := cell_of_row wx bd 0 _ _ _ Tx.rd
        have yf0 := frozen_of_row wx bd 0 _ _ Tx.rd
        have y1 := cell_of_row wx bd 1 _ _ _ Tx.rd
        have yf1 := frozen_of_row wx bd 1 _ _ Tx.rd
        have y2 := cell_of_row wx bd 2 _ _ _ Tx.rd
        have yf2 := frozen_of_row wx bd 2 _ _ Tx.rd
        have x3 := cell_of_row wx br 3 _ _ _ Tx.rr
        have xf3 := frozen_of_row wx br 3 _ _ Tx.rr
        go_upto_region 17 with fail
        obtain ⟨w4, hwy⟩ : ∃ wy, stp wx bd s o4 x4 br 3 (.int .u64 (v3 : Int)) = wy := ⟨_, rfl⟩
        have hwz := hwy
        unfold stp at hwz
        rw [hwz]
        have T4 : RT w w4 V s oj 0 n0 t1 n2 (rrv s) j va br #[.int .i64 (opA v0), .string v1, .string v2, .int .u64 (v3 : Int), .int .u64 0, .string ⟨#[]⟩, .string ⟨#[]⟩, .bool false] bd o4 x4 := by rw [← hwy]; exact Tx.stp o4 x4 3 (.int .u64 (v3 : Int))
        clear hwy hwz Tx y0 yf0 y1 yf1 y2 yf2 x3 xf3
        have y0 := cell_of_row w4 bd 0 _ _ _ T4.rd
        have yf0 := frozen_of_row w4 bd 0 _ _ T4.rd
        have y1 := cell_of_row w4 bd 1 _ _ _ T4.rd
        have yf1 := frozen_of_row w4 bd 1 _ _ T4.rd
        have y2 := cell_of_row w4 bd 2 _ _ _ T4.rd
        have yf2 := frozen_of_row w4 bd 2 _ _ T4.rd
        go_wp2_with fail
        refine (q4 _).mono ?_
        rintro e wx ⟨rfl, hbx⟩
        have Tx := T4.later hbx
        clear y0 yf0 y1 yf1 y2 yf2 T4 hbx q4
        have y0 := cell_of_row wx bd 0 _ _ _ Tx.rd
        have yf0 := frozen_of_row wx bd 0 _ _ Tx.rd
        have y1 := cell_of_row wx bd 1 _ _ _ Tx.rd
        have yf1 := frozen_of_row wx bd 1 _ _ Tx.rd
        have y2 := cell_of_row wx bd 2 _ _ _ Tx.rd
        have yf2 := frozen_of_row wx bd 2 _ _ Tx.rd
        have x4 := cell_of_row wx br 4 _ _ _ Tx.rr
        have xf4 := frozen_of_row wx br 4 _ _ Tx.rr
        go_upto_region 18 with fail
        obtain ⟨w5, hwy⟩ : ∃ wy, stp wx bd s o5 x5 br 4 (.int .u64 (v4 : Int)) = wy := ⟨_, rfl⟩
        have hwz := hwy
        unfold stp at hwz
        rw [hwz]
        have T5 : RT w w5 V s oj 0 n0 t1 n2 (rrv s) j va br #[.int .i64 (opA v0), .string v1, .string v2, .int .u64 (v3 : Int), .int .u64 (v4 : Int), .string ⟨#[]⟩, .string ⟨#[]⟩, .bool false] bd o5 x5 := by rw [← hwy]; exact Tx.stp o5 x5 4 (.int .u64 (v4 : Int))
        clear hwy hwz Tx y0 yf0 y1 yf1 y2 yf2 x4 xf4
        have y0 := cell_of_row w5 bd 0 _ _ _ T5.rd
        have yf0 := frozen_of_row w5 bd 0 _ _ T5.rd
        have y1 := cell_of_row w5 bd 1 _ _ _ T5.rd
        have yf1 := frozen_of_row w5 bd 1 _ _ T5.rd
        have y2 := cell_of_row w5 bd 2 _ _ _ T5.rd
        have yf2 := frozen_of_row w5 bd 2 _ _ T5.rd
        go_wp2_with fail
        refine (q5 _).mono ?_
        rintro e wx ⟨rfl, hbx⟩
        have Tx := T5.later hbx
        clear y0 yf0 y1 yf1 y2 yf2 T5 hbx q5
        have y0 := cell_of_row wx bd 0 _ _ _ Tx.rd
        have yf0 := frozen_of_row wx bd 0 _ _ Tx.rd
        have y1 := cell_of_row wx bd 1 _ _ _ Tx.rd
        have yf1 := frozen_of_row wx bd 1 _ _ Tx.rd
        have y2 := cell_of_row wx bd 2 _ _ _ Tx.rd
        have yf2 := frozen_of_row wx bd 2 _ _ Tx.rd
        have x5 := cell_of_row wx br 5 _ _ _ Tx.rr
        have xf5 := frozen_of_row wx br 5 _ _ Tx.rr
        go_upto_region 19 with fail
        obtain ⟨w6, hwy⟩ : ∃ wy, stp wx bd s o6 x6 br 5 (.string v5) = wy := ⟨_, rfl⟩
        have hwz := hwy
        unfold stp at hwz
        rw [hwz]
        have T6 : RT w w6 V s oj 0 n0 t1 n2 (rrv s) j va br #[.int .i64 (opA v0), .string v1, .string v2, .int .u64 (v3 : Int), .int .u64 (v4 : Int), .string v5, .string ⟨#[]⟩, .bool false] bd o6 x6 := by rw [← hwy]; exact Tx.stp o6 x6 5 (.string v5)
        clear hwy hwz Tx y0 yf0 y1 yf1 y2 yf2 x5 xf5
        have y0 := cell_of_row w6 bd 0 _ _ _ T6.rd
        have yf0 := frozen_of_row w6 bd 0 _ _ T6.rd
        have y1 := cell_of_row w6 bd 1 _ _ _ T6.rd
        have yf1 := frozen_of_row w6 bd 1 _ _ T6.rd
        have y2 := cell_of_row w6 bd 2 _ _ _ T6.rd
        have yf2 := frozen_of_row w6 bd 2 _ _ T6.rd
        have z0 := cell_of_row w6 V 0 _ _ _ T6.base.rc
        have zf0 := frozen_of_row w6 V 0 _ _ T6.base.rc
        have z1 := cell_of_row w6 V 1 _ _ _ T6.base.rc
        have zf1 := frozen_of_row w6 V 1 _ _ T6.base.rc
        have z2 := cell_of_row w6 V 2 _ _ _ T6.base.rc
        have zf2 := frozen_of_row w6 V 2 _ _ T6.base.rc
        go_upto_region 20 with fail
        obtain ⟨w7, hwy⟩ : ∃ wy, st3 w6 V s o6 x6 = wy := ⟨_, rfl⟩
        have hwz := hwy
        unfold st3 at hwz
        rw [hwz]
        have T7 : RT w w7 V s o6 x6 n0 t1 n2 (rrv s) j va br #[.int .i64 (opA v0), .string v1, .string v2, .int .u64 (v3 : Int), .int .u64 (v4 : Int), .string v5, .string ⟨#[]⟩, .bool false] bd o6 x6 := by rw [← hwy]; exact T6.setc o6 x6
        clear hwy hwz T6 y0 yf0 y1 yf1 y2 yf2 z0 zf0 z1 zf1 z2 zf2
        obtain ⟨op, hop⟩ : ∃ op, opA v0 = op := ⟨_, rfl⟩
        rw [hop] at T7
        have HRO : Hid (rrv s j = ⟨op, v1, v2, v3, v4, v5, ⟨#[]⟩, bodied op⟩) := by rw [← hop]; exact HR
        clear hop HR
        have hbod : bodied op = (decide (op = 3) || decide (op = 4)) := rfl
        obtain ⟨Bo, hBo⟩ : ∃ b, bodied op = b := ⟨_, rfl⟩
        have HRB : Hid (rrv s j = ⟨op, v1, v2, v3, v4, v5, ⟨#[]⟩, Bo⟩) := by rw [← hBo]; exact HRO
        rw [hBo] at hbod
        clear HRO hBo
        have x0 := cell_of_row w7 br 0 _ _ _ T7.rr
        have xf0 := frozen_of_row w7 br 0 _ _ T7.rr
        have x7 := cell_of_row w7 br 7 _ _ _ T7.rr
        have xf7 := frozen_of_row w7 br 7 _ _ T7.rr
        by_cases h3 : op = 3
        · have hb1 : Bo = true := by rw [hbod, decide_eq_true h3]; rfl
          subst hb1
          subst h3
          clear hbod
          go_upto_region 21 with fail
          obtain ⟨w8, hwy⟩ : ∃ wy, w7.setCell ⟨br, 7, none⟩ (.bool true) = wy := ⟨_, rfl⟩
          rw [hwy]
          have T8 : RT w w8 V s o6 x6 n0 t1 n2 (rrv s) j va br #[.int .i64 3, .string v1, .string v2, .int .u64 (v3 : Int), .int .u64 (v4 : Int), .string v5, .string ⟨#[]⟩, .bool true] bd o6 x6 := by rw [← hwy]; exact T7.setr 7 (.bool true)
          clear hwy T7 x0 xf0 x7 xf7
          have x0 := cell_of_row w8 br 0 _ _ _ T8.rr
          have xf0 := frozen_of_row w8 br 0 _ _ T8.rr
          have x1 := cell_of_row w8 br 1 _ _ _ T8.rr
          have xf1 := frozen_of_row w8 br 1 _ _ T8.rr
          have x2 := cell_of_row w8 br 2 _ _ _ T8.rr
          have xf2 := frozen_of_row w8 br 2 _ _ T8.rr
          have x3 := cell_of_row w8 br 3 _ _ _ T8.rr
          have xf3 := frozen_of_row w8 br 3 _ _ T8.rr
          have x4 := cell_of_row w8 br 4 _ _ _ T8.rr
          have xf4 := frozen_of_row w8 br 4 _ _ T8.rr
          have x5 := cell_of_row w8 br 5 _ _ _ T8.rr
          have xf5 := frozen_of_row w8 br 5 _ _ T8.rr
          have x6 := cell_of_row w8 br 6 _ _ _ T8.rr
          have xf6 := frozen_of_row w8 br 6 _ _ T8.rr
          have x7 := cell_of_row w8 br 7 _ _ _ T8.rr
          have xf7 := frozen_of_row w8 br 7 _ _ T8.rr
          have z3 := cell_of_row w8 (w.heap.size + 1) 3 _ _ _ T8.base.r1
          have zf3 := frozen_of_row w8 (w.heap.size + 1) 3 _ _ T8.base.r1
          have bal : Below w8.heap.size w8 (w8.alloc (.cells #[.int .i64 3, .string v1, .string v2, .int .u64 (v3 : Int), .int .u64 (v4 : Int), .string v5, .string ⟨#[]⟩, .bool true] 30)) := (Below.refl _ _).alloc (Nat.le_refl _) _
          have Dy := T8.base.later bal
          have hone : ∀ u ∈ [Value.int .i64 3, .string v1, .string v2, .int .u64 (v3 : Int), .int .u64 (v4 : Int), .string v5, .string ⟨#[]⟩, .bool true], u.oneCell' = true := by
            intro u hu
            simp only [List.mem_cons, List.not_mem_nil, or_false] at hu
            rcases hu with rfl | rfl | rfl | rfl | rfl | rfl | rfl | rfl <;> rfl
          have hnews := World.news_of_block (heap_alloc_new w8 (.cells #[.int .i64 3, .string v1, .string v2, .int .u64 (v3 : Int), .int .u64 (v4 : Int), .string v5, .string ⟨#[]⟩, .bool true] 30))
          have lv8 := lt_of_row T8.rr
          have own8 := Dy.own
          have fz3 := frozen_of_row _ _ 3 _ _ Dy.r1
          have cz3 := cell_of_row _ _ 3 _ _ _ Dy.r1
          have HNW := hidI hnews
          have HON := hidI hone
          have HDY := hidI Dy
          have HOW := hidI own8
          clear T8 bal hnews hone Dy own8 fz3 cz3
          have HB2 : Hid (∀ t, t < j + 1 → (rst s t).e = 0) := fun t ht => by
            by_cases e : t = j
            · rw [e, HJ.out]
            · exact HB.out t (by omega)
          have hj5 : w.heap.size + 1 < V + 1 := by omega
          have hj6 := lt_of_row HDY.out.r1
          have hj1 : j + 1 ≤ maxLen := by unfold maxLen; omega
          have hj2 : (j + 1) * 96 ≤ 140737488355328 := by omega
          have hj3 : V + 1 ≤ (w8.alloc (.cells #[.int .i64 3, .string v1, .string v2, .int .u64 (v3 : Int), .int .u64 (v4 : Int), .string v5, .string ⟨#[]⟩, .bool true] 30)).heap.size := by rw [World.size_alloc]; omega
          have hj4 := World.size_alloc w8 (.cells #[.int .i64 3, .string v1, .string v2, .int .u64 (v3 : Int), .int .u64 (v4 : Int), .string v5, .string ⟨#[]⟩, .bool true] 30)
          go_wp2_with (at_builtin; refine wpList_append_lies (w8.alloc (.cells #[.int .i64 3, .string v1, .string v2, .int .u64 (v3 : Int), .int .u64 (v4 : Int), .string v5, .string ⟨#[]⟩, .bool true] 30)) (by rfl) (.tmp 103) (.tmp 105) 39 (by rfl) (V + 1) 30 i30 _ 8 96 Tryd.underlying39 hi hz0 hz1 hz2 (by rfl) (by decide) va j (revC (rrv s) j) ?e1 HOW.out ⟨w8.heap.size, 0, none⟩ 1 1 [Value.int .i64 3, .string v1, .string v2, .int .u64 (v3 : Int), .int .u64 (v4 : Int), .string v5, .string ⟨#[]⟩, .bool true] ?e2 (by rfl) HNW.out HON.out (by decide) ?e3 ?e4 ?e5 (w8.heap.size + 1) ?e6 ?_; (case e1 => rfl); (case e2 => rfl); (case e3 => exact hj1); (case e4 => exact hj2); (case e5 => exact hj3); (case e6 => exact hj4); intro g6 cap6 w9 hown6 hgr6 hat6 hlt6; have hown7 : w9.ownsRow (V + 1) 30 8 (.slice (some ⟨g6, 0, none⟩) (j + 1) cap6) (j + 1) (revC (rrv s) j ++ (rrv s j).cs.toList) := (by rw [HRB.out]; exact hown6); have D9 : Hid (RD w (w9.setCell ⟨w.heap.size + 1, 3, none⟩ (.slice (some ⟨g6, 0, none⟩) (j + 1) cap6)) V s (rst s (j + 1)).o (rst s (j + 1)).e n0 t1 n2 (rrv s) (j + 1) (.slice (some ⟨g6, 0, none⟩) (j + 1) cap6)) := (by rw [HN.out]; exact HDY.out.app hgr6 hown7); have r19 := far_row hgr6 (fun k hk => (HOW.out.lt k hk).1) HDY.out.r1 hj5 hj6; have c93 := cell_of_row w9 _ 3 _ _ _ r19; have f93 := frozen_of_row w9 _ 3 _ _ r19; clear hown6 hown7 hgr6 hat6 hlt6 r19 HNW HON HDY HOW hj1 hj2 hj3 hj4 hj5 hj6)
          go_roundw
          case rel => exact ⟨j + 1, .slice (some ⟨g6, 0, none⟩) (j + 1) cap6, congrArg (Value.int .i64) (Int.natCast_succ j).symm, hlt, HB2, D9⟩
          case measure => simp [intOf]; omega
        · have h3d : decide (op = 3) = false := decide_eq_false h3
          by_cases h4 : op = 4
          · have hb1 : Bo = true := by rw [hbod, decide_eq_true h4, h3d]; rfl
            subst hb1
            subst h4
            clear hbod h3 h3d
            go_upto_region 21 with fail
            obtain ⟨w8, hwy⟩ : ∃ wy, w7.setCell ⟨br, 7, none⟩ (.bool true) = wy := ⟨_, rfl⟩
            rw [hwy]
            have T8 : RT w w8 V s o6 x6 n0 t1 n2 (rrv s) j va br #[.int .i64 4, .string v1, .string v2, .int .u64 (v3 : Int), .int .u64 (v4 : Int), .string v5, .string ⟨#[]⟩, .bool true] bd o6 x6 := by rw [← hwy]; exact T7.setr 7 (.bool true)
            clear hwy T7 x0 xf0 x7 xf7
            have x0 := cell_of_row w8 br 0 _ _ _ T8.rr
            have xf0 := frozen_of_row w8 br 0 _ _ T8.rr
            have x1 := cell_of_row w8 br 1 _ _ _ T8.rr
            have xf1 := frozen_of_row w8 br 1 _ _ T8.rr
            have x2 := cell_of_row w8 br 2 _ _ _ T8.rr
            have xf2 := frozen_of_row w8 br 2 _ _ T8.rr
            have x3 := cell_of_row w8 br 3 _ _ _ T8.rr
            have xf3 := frozen_of_row w8 br 3 _ _ T8.rr
            have x4 := cell_of_row w8 br 4 _ _ _ T8.rr
            have xf4 := frozen_of_row w8 br 4 _ _ T8.rr
            have x5 := cell_of_row w8 br 5 _ _ _ T8.rr
            have xf5 := frozen_of_row w8 br 5 _ _ T8.rr
            have x6 := cell_of_row w8 br 6 _ _ _ T8.rr
            have xf6 := frozen_of_row w8 br 6 _ _ T8.rr
            have x7 := cell_of_row w8 br 7 _ _ _ T8.rr
            have xf7 := frozen_of_row w8 br 7 _ _ T8.rr
            have z3 := cell_of_row w8 (w.heap.size + 1) 3 _ _ _ T8.base.r1
            have zf3 := frozen_of_row w8 (w.heap.size + 1) 3 _ _ T8.base.r1
            have bal : Below w8.heap.size w8 (w8.alloc (.cells #[.int .i64 4, .string v1, .string v2, .int .u64 (v3 : Int), .int .u64 (v4 : Int), .string v5, .string ⟨#[]⟩, .bool true] 30)) := (Below.refl _ _).alloc (Nat.le_refl _) _
            have Dy := T8.base.later bal
            have hone : ∀ u ∈ [Value.int .i64 4, .string v1, .string v2, .int .u64 (v3 : Int), .int .u64 (v4 : Int), .string v5, .string ⟨#[]⟩, .bool true], u.oneCell' = true := by
              intro u hu
              simp only [List.mem_cons, List.not_mem_nil, or_false] at hu
              rcases hu with rfl | rfl | rfl | rfl | rfl | rfl | rfl | rfl <;> rfl
            have hnews := World.news_of_block (heap_alloc_new w8 (.cells #[.int .i64 4, .string v1, .string v2, .int .u64 (v3 : Int), .int .u64 (v4 : Int), .string v5, .string ⟨#[]⟩, .bool true] 30))
            have lv8 := lt_of_row T8.rr
            have own8 := Dy.own
            have fz3 := frozen_of_row _ _ 3 _ _ Dy.r1
            have cz3 := cell_of_row _ _ 3 _ _ _ Dy.r1
            have HNW := hidI hnews
            have HON := hidI hone
            have HDY := hidI Dy
            have HOW := hidI own8
            clear T8 bal hnews hone Dy own8 fz3 cz3
            have HB2 : Hid (∀ t, t < j + 1 → (rst s t).e = 0) := fun t ht => by
              by_cases e : t = j
              · rw [e, HJ.out]
              · exact HB.out t (by omega)
            have hj5 : w.heap.size + 1 < V + 1 := by omega
            have hj6 := lt_of_row HDY.out.r1
            have hj1 : j + 1 ≤ maxLen := by unfold maxLen; omega
            have hj2 : (j + 1) * 96 ≤ 140737488355328 := by omega
            have hj3 : V + 1 ≤ (w8.alloc (.cells #[.int .i64 4, .string v1, .string v2, .int .u64 (v3 : Int), .int .u64 (v4 : Int), .string v5, .string ⟨#[]⟩, .bool true] 30)).heap.size := by rw [World.size_alloc]; omega
            have hj4 := World.size_alloc w8 (.cells #[.int .i64 4, .string v1, .string v2, .int .u64 (v3 : Int), .int .u64 (v4 : Int), .string v5, .string ⟨#[]⟩, .bool true] 30)
            go_wp2_with (at_builtin; refine wpList_append_lies (w8.alloc (.cells #[.int .i64 4, .string v1, .string v2, .int .u64 (v3 : Int), .int .u64 (v4 : Int), .string v5, .string ⟨#[]⟩, .bool true] 30)) (by rfl) (.tmp 103) (.tmp 105) 39 (by rfl) (V + 1) 30 i30 _ 8 96 Tryd.underlying39 hi hz0 hz1 hz2 (by rfl) (by decide) va j (revC (rrv s) j) ?e1 HOW.out ⟨w8.heap.size, 0, none⟩ 1 1 [Value.int .i64 4, .string v1, .string v2, .int .u64 (v3 : Int), .int .u64 (v4 : Int), .string v5, .string ⟨#[]⟩, .bool true] ?e2 (by rfl) HNW.out HON.out (by decide) ?e3 ?e4 ?e5 (w8.heap.size + 1) ?e6 ?_; (case e1 => rfl); (case e2 => rfl); (case e3 => exact hj1); (case e4 => exact hj2); (case e5 => exact hj3); (case e6 => exact hj4); intro g6 cap6 w9 hown6 hgr6 hat6 hlt6; have hown7 : w9.ownsRow (V + 1) 30 8 (.slice (some ⟨g6, 0, none⟩) (j + 1) cap6) (j + 1) (revC (rrv s) j ++ (rrv s j).cs.toList) := (by rw [HRB.out]; exact hown6); have D9 : Hid (RD w (w9.setCell ⟨w.heap.size + 1, 3, none⟩ (.slice (some ⟨g6, 0, none⟩) (j + 1) cap6)) V s (rst s (j + 1)).o (rst s (j + 1)).e n0 t1 n2 (rrv s) (j + 1) (.slice (some ⟨g6, 0, none⟩) (j + 1) cap6)) := (by rw [HN.out]; exact HDY.out.app hgr6 hown7); have r19 := far_row hgr6 (fun k hk => (HOW.out.lt k hk).1) HDY.out.r1 hj5 hj6; have c93 := cell_of_row w9 _ 3 _ _ _ r19; have f93 := frozen_of_row w9 _ 3 _ _ r19; clear hown6 hown7 hgr6 hat6 hlt6 r19 HNW HON HDY HOW hj1 hj2 hj3 hj4 hj5 hj6)
            go_roundw
            case rel => exact ⟨j + 1, .slice (some ⟨g6, 0, none⟩) (j + 1) cap6, congrArg (Value.int .i64) (Int.natCast_succ j).symm, hlt, HB2, D9⟩
            case measure => simp [intOf]; omega
          · have h4d : decide (op = 4) = false := decide_eq_false h4
            have h4b : (op == 4) = false := by simpa using h4
            have hb1 : Bo = false := by rw [hbod, h3d, h4d]; rfl
            subst hb1
            clear hbod
            go_upto_region 21 with fail
            obtain ⟨w8, hwy⟩ : ∃ wy, w7.setCell ⟨br, 7, none⟩ (.bool false) = wy := ⟨_, rfl⟩
            rw [hwy]
            have T8 : RT w w8 V s o6 x6 n0 t1 n2 (rrv s) j va br #[.int .i64 op, .string v1, .string v2, .int .u64 (v3 : Int), .int .u64 (v4 : Int), .string v5, .string ⟨#[]⟩, .bool false] bd o6 x6 := by rw [← hwy]; exact T7.setr 7 (.bool false)
            clear hwy T7 x0 xf0 x7 xf7
            have x0 := cell_of_row w8 br 0 _ _ _ T8.rr
            have xf0 := frozen_of_row w8 br 0 _ _ T8.rr
            have x1 := cell_of_row w8 br 1 _ _ _ T8.rr
            have xf1 := frozen_of_row w8 br 1 _ _ T8.rr
            have x2 := cell_of_row w8 br 2 _ _ _ T8.rr
            have xf2 := frozen_of_row w8 br 2 _ _ T8.rr
            have x3 := cell_of_row w8 br 3 _ _ _ T8.rr
            have xf3 := frozen_of_row w8 br 3 _ _ T8.rr
            have x4 := cell_of_row w8 br 4 _ _ _ T8.rr
            have xf4 := frozen_of_row w8 br 4 _ _ T8.rr
            have x5 := cell_of_row w8 br 5 _ _ _ T8.rr
            have xf5 := frozen_of_row w8 br 5 _ _ T8.rr
            have x6 := cell_of_row w8 br 6 _ _ _ T8.rr
            have xf6 := frozen_of_row w8 br 6 _ _ T8.rr
            have x7 := cell_of_row w8 br 7 _ _ _ T8.rr
            have xf7 := frozen_of_row w8 br 7 _ _ T8.rr
            have z3 := cell_of_row w8 (w.heap.size + 1) 3 _ _ _ T8.base.r1
            have zf3 := frozen_of_row w8 (w.heap.size + 1) 3 _ _ T8.base.r1
            have bal : Below w8.heap.size w8 (w8.alloc (.cells #[.int .i64 op, .string v1, .string v2, .int .u64 (v3 : Int), .int .u64 (v4 : Int), .string v5, .string ⟨#[]⟩, .bool false] 30)) := (Below.refl _ _).alloc (Nat.le_refl _) _
            have Dy := T8.base.later bal
            have hone : ∀ u ∈ [Value.int .i64 op, .string v1, .string v2, .int .u64 (v3 : Int), .int .u64 (v4 : Int), .string v5, .string ⟨#[]⟩, .bool false], u.oneCell' = true := by
              intro u hu
              simp only [List.mem_cons, List.not_mem_nil, or_false] at hu
              rcases hu with rfl | rfl | rfl | rfl | rfl | rfl | rfl | rfl <;> rfl
            have hnews := World.news_of_block (heap_alloc_new w8 (.cells #[.int .i64 op, .string v1, .string v2, .int .u64 (v3 : Int), .int .u64 (v4 : Int), .string v5, .string ⟨#[]⟩, .bool false] 30))
            have lv8 := lt_of_row T8.rr
            have own8 := Dy.own
            have fz3 := frozen_of_row _ _ 3 _ _ Dy.r1
            have cz3 := cell_of_row _ _ 3 _ _ _ Dy.r1
            have HNW := hidI hnews
            have HON := hidI hone
            have HDY := hidI Dy
            have HOW := hidI own8
            clear T8 bal hnews hone Dy own8 fz3 cz3
            have HB2 : Hid (∀ t, t < j + 1 → (rst s t).e = 0) := fun t ht => by
              by_cases e : t = j
              · rw [e, HJ.out]
              · exact HB.out t (by omega)
            have hj5 : w.heap.size + 1 < V + 1 := by omega
            have hj6 := lt_of_row HDY.out.r1
            have hj1 : j + 1 ≤ maxLen := by unfold maxLen; omega
            have hj2 : (j + 1) * 96 ≤ 140737488355328 := by omega
            have hj3 : V + 1 ≤ (w8.alloc (.cells #[.int .i64 op, .string v1, .string v2, .int .u64 (v3 : Int), .int .u64 (v4 : Int), .string v5, .string ⟨#[]⟩, .bool false] 30)).heap.size := by rw [World.size_alloc]; omega
            have hj4 := World.size_alloc w8 (.cells #[.int .i64 op, .string v1, .string v2, .int .u64 (v3 : Int), .int .u64 (v4 : Int), .string v5, .string ⟨#[]⟩, .bool false] 30)
            go_wp2_with (at_builtin; refine wpList_append_lies (w8.alloc (.cells #[.int .i64 op, .string v1, .string v2, .int .u64 (v3 : Int), .int .u64 (v4 : Int), .string v5, .string ⟨#[]⟩, .bool false] 30)) (by rfl) (.tmp 103) (.tmp 105) 39 (by rfl) (V + 1) 30 i30 _ 8 96 Tryd.underlying39 hi hz0 hz1 hz2 (by rfl) (by decide) va j (revC (rrv s) j) ?e1 HOW.out ⟨w8.heap.size, 0, none⟩ 1 1 [Value.int .i64 op, .string v1, .string v2, .int .u64 (v3 : Int), .int .u64 (v4 : Int), .string v5, .string ⟨#[]⟩, .bool false] ?e2 (by rfl) HNW.out HON.out (by decide) ?e3 ?e4 ?e5 (w8.heap.size + 1) ?e6 ?_; (case e1 => rfl); (case e2 => rfl); (case e3 => exact hj1); (case e4 => exact hj2); (case e5 => exact hj3); (case e6 => exact hj4); intro g6 cap6 w9 hown6 hgr6 hat6 hlt6; have hown7 : w9.ownsRow (V + 1) 30 8 (.slice (some ⟨g6, 0, none⟩) (j + 1) cap6) (j + 1) (revC (rrv s) j ++ (rrv s j).cs.toList) := (by rw [HRB.out]; exact hown6); have D9 : Hid (RD w (w9.setCell ⟨w.heap.size + 1, 3, none⟩ (.slice (some ⟨g6, 0, none⟩) (j + 1) cap6)) V s (rst s (j + 1)).o (rst s (j + 1)).e n0 t1 n2 (rrv s) (j + 1) (.slice (some ⟨g6, 0, none⟩) (j + 1) cap6)) := (by rw [HN.out]; exact HDY.out.app hgr6 hown7); have r19 := far_row hgr6 (fun k hk => (HOW.out.lt k hk).1) HDY.out.r1 hj5 hj6; have c93 := cell_of_row w9 _ 3 _ _ _ r19; have f93 := frozen_of_row w9 _ 3 _ _ r19; clear hown6 hown7 hgr6 hat6 hlt6 r19 HNW HON HDY HOW hj1 hj2 hj3 hj4 hj5 hj6)
            go_roundw
            case rel => exact ⟨j + 1, .slice (some ⟨g6, 0, none⟩) (j + 1) cap6, congrArg (Value.int .i64) (Int.natCast_succ j).symm, hlt, HB2, D9⟩
            case measure => simp [intOf]; omega
      · have hv0 := hbe.2 hx1
        have hop0 : opA v0 = 0 := if_pos hv0
        have hx1d : decide (x1 = 0) = false := decide_eq_false hx1
        go_upto_region 14 with fail
        obtain ⟨wz, hwy⟩ : ∃ wz, wy = wz := ⟨_, rfl⟩
        rw [hwy]
        have T1 : RT w wz V s oj 0 n0 t1 n2 (rrv s) j va br #[.int .i64 (opA v0), .string ⟨#[]⟩, .string ⟨#[]⟩, .int .u64 0, .int .u64 0, .string ⟨#[]⟩, .string ⟨#[]⟩, .bool false] bd o1 x1 := by rw [← hwy, hop0]; exact T0
        clear hwy T0 hbe hop0 hv0 y2 yf2 x0 xf0
        have y0 := cell_of_row wz bd 0 _ _ _ T1.rd
        have yf0 := frozen_of_row wz bd 0 _ _ T1.rd
        have y1 := cell_of_row wz bd 1 _ _ _ T1.rd
        have yf1 := frozen_of_row wz bd 1 _ _ T1.rd
        have y2 := cell_of_row wz bd 2 _ _ _ T1.rd
        have yf2 := frozen_of_row wz bd 2 _ _ T1.rd
        go_wp2_with fail
        refine (q1 _).mono ?_
        rintro e wx ⟨rfl, hbx⟩
        have Tx := T1.later hbx
        clear y0 yf0 y1 yf1 y2 yf2 T1 hbx q1
        have y0 := cell_of_row wx bd 0 _ _ _ Tx.rd
        have yf0 := frozen_of_row wx bd 0 _ _ Tx.rd
        have y1 := cell_of_row wx bd 1 _ _ _ Tx.rd
        have yf1 := frozen_of_row wx bd 1 _ _ Tx.rd
        have y2 := cell_of_row wx bd 2 _ _ _ Tx.rd
        have yf2 := frozen_of_row wx bd 2 _ _ Tx.rd
        have x1 := cell_of_row wx br 1 _ _ _ Tx.rr
        have xf1 := frozen_of_row wx br 1 _ _ Tx.rr
        go_upto_region 15 with fail
        obtain ⟨w2, hwy⟩ : ∃ wy, stp wx bd s o2 x2 br 1 (.string v1) = wy := ⟨_, rfl⟩
        have hwz := hwy
        unfold stp at hwz
        rw [hwz]
        have T2 : RT w w2 V s oj 0 n0 t1 n2 (rrv s) j va br #[.int .i64 (opA v0), .string v1, .string ⟨#[]⟩, .int .u64 0, .int .u64 0, .string ⟨#[]⟩, .string ⟨#[]⟩, .bool false] bd o2 x2 := by rw [← hwy]; exact Tx.stp o2 x2 1 (.string v1)
        clear hwy hwz Tx y0 yf0 y1 yf1 y2 yf2 x1 xf1
        have y0 := cell_of_row w2 bd 0 _ _ _ T2.rd
        have yf0 := frozen_of_row w2 bd 0 _ _ T2.rd
        have y1 := cell_of_row w2 bd 1 _ _ _ T2.rd
        have yf1 := frozen_of_row w2 bd 1 _ _ T2.rd
        have y2 := cell_of_row w2 bd 2 _ _ _ T2.rd
        have yf2 := frozen_of_row w2 bd 2 _ _ T2.rd
        go_wp2_with fail
        refine (q2 _).mono ?_
        rintro e wx ⟨rfl, hbx⟩
        have Tx := T2.later hbx
        clear y0 yf0 y1 yf1 y2 yf2 T2 hbx q2
        have y0 := cell_of_row wx bd 0 _ _ _ Tx.rd
        have yf0 := frozen_of_row wx bd 0 _ _ Tx.rd
        have y1 := cell_of_row wx bd 1 _ _ _ Tx.rd
        have yf1 := frozen_of_row wx bd 1 _ _ Tx.rd
        have y2 := cell_of_row wx bd 2 _ _ _ Tx.rd
        have yf2 := frozen_of_row wx bd 2 _ _ Tx.rd
        have x2 := cell_of_row wx br 2 _ _ _ Tx.rr
        have xf2 := frozen_of_row wx br 2 _ _ Tx.rr
        go_upto_region 16 with fail
        obtain ⟨w3, hwy⟩ : ∃ wy, stp wx bd s o3 x3 br 2 (.string v2) = wy := ⟨_, rfl⟩
        have hwz := hwy
        unfold stp at hwz
        rw [hwz]
        have T3 : RT w w3 V s oj 0 n0 t1 n2 (rrv s) j va br #[.int .i64 (opA v0), .string v1, .string v2, .int .u64 0, .int .u64 0, .string ⟨#[]⟩, .string ⟨#[]⟩, .bool false] bd o3 x3 := by rw [← hwy]; exact Tx.stp o3 x3 2 (.string v2)
        clear hwy hwz Tx y0 yf0 y1 yf1 y2 yf2 x2 xf2
        have y0 := cell_of_row w3 bd 0 _ _ _ T3.rd
        have yf0 := frozen_of_row w3 bd 0 _ _ T3.rd
        have y1 := cell_of_row w3 bd 1 _ _ _ T3.rd
        have yf1 := frozen_of_row w3 bd 1 _ _ T3.rd
        have y2 := cell_of_row w3 bd 2 _ _ _ T3.rd
        have yf2 := frozen_of_row w3 bd 2 _ _ T3.rd
        go_wp2_with fail
        refine (q3 _).mono ?_
        rintro e wx ⟨rfl, hbx⟩
        have Tx := T3.later hbx
        clear y0 yf0 y1 yf1 y2 yf2 T3 hbx q3
        have y0 := cell_of_row wx bd 0 _ _ _ Tx.rd
        have yf0 := frozen_of_row wx bd 0 _ _ Tx.rd
        have y1 := cell_of_row wx bd 1 _ _ _ Tx.rd
        have yf1 := frozen_of_row wx bd 1 _ _ Tx.rd
        have y2 := cell_of_row wx bd 2 _ _ _ Tx.rd
        have yf2 := frozen_of_row wx bd 2 _ _ Tx.rd
        have x3 := cell_of_row wx br 3 _ _ _ Tx.rr
        have xf3 := frozen_of_row wx br 3 _ _ Tx.rr
        go_upto_region 17 with fail
        obtain ⟨w4, hwy⟩ : ∃ wy, stp wx bd s o4 x4 br 3 (.int .u64 (v3 : Int)) = wy := ⟨_, rfl⟩
        have hwz := hwy
        unfold stp at hwz
        rw [hwz]
        have T4 : RT w w4 V s oj 0 n0 t1 n2 (rrv s) j va br #[.int .i64 (opA v0), .string v1, .string v2, .int .u64 (v3 : Int), .int .u64 0, .string ⟨#[]⟩, .string ⟨#[]⟩, .bool false] bd o4 x4 := by rw [← hwy]; exact Tx.stp o4 x4 3 (.int .u64 (v3 : Int))
        clear hwy hwz Tx y0 yf0 y1 yf1 y2 yf2 x3 xf3
        have y0 := cell_of_row w4 bd 0 _ _ _ T4.rd
        have yf0 := frozen_of_row w4 bd 0 _ _ T4.rd
        have y1 := cell_of_row w4 bd 1 _ _ _ T4.rd
        have yf1 := frozen_of_row w4 bd 1 _ _ T4.rd
        have y2 := cell_of_row w4 bd 2 _ _ _ T4.rd
        have yf2 := frozen_of_row w4 bd 2 _ _ T4.rd
        go_wp2_with fail
        refine (q4 _).mono ?_
        rintro e wx ⟨rfl, hbx⟩
        have Tx := T4.later hbx
        clear y0 yf0 y1 yf1 y2 yf2 T4 hbx q4
        have y0 := cell_of_row wx bd 0 _ _ _ Tx.rd
        have yf0 := frozen_of_row wx bd 0 _ _ Tx.rd
        have y1 := cell_of_row wx bd 1 _ _ _ Tx.rd
        have yf1 := frozen_of_row wx bd 1 _ _ Tx.rd
        have y2 := cell_of_row wx bd 2 _ _ _ Tx.rd
        have yf2 := frozen_of_row wx bd 2 _ _ Tx.rd
        have x4 := cell_of_row wx br 4 _ _ _ Tx.rr
        have xf4 := frozen_of_row wx br 4 _ _ Tx.rr
        go_upto_region 18 with fail
        obtain ⟨w5, hwy⟩ : ∃ wy, stp wx bd s o5 x5 br 4 (.int .u64 (v4 : Int)) = wy := ⟨_, rfl⟩
        have hwz := hwy
        unfold stp at hwz
        rw [hwz]
        have T5 : RT w w5 V s oj 0 n0 t1 n2 (rrv s) j va br #[.int .i64 (opA v0), .string v1, .string v2, .int .u64 (v3 : Int), .int .u64 (v4 : Int), .string ⟨#[]⟩, .string ⟨#[]⟩, .bool false] bd o5 x5 := by rw [← hwy]; exact Tx.stp o5 x5 4 (.int .u64 (v4 : Int))
        clear hwy hwz Tx y0 yf0 y1 yf1 y2 yf2 x4 xf4
        have y0 := cell_of_row w5 bd 0 _ _ _ T5.rd
        have yf0 := frozen_of_row w5 bd 0 _ _ T5.rd
        have y1 := cell_of_row w5 bd 1 _ _ _ T5.rd
        have yf1 := frozen_of_row w5 bd 1 _ _ T5.rd
        have y2 := cell_of_row w5 bd 2 _ _ _ T5.rd
        have yf2 := frozen_of_row w5 bd 2 _ _ T5.rd
        go_wp2_with fail
        refine (q5 _).mono ?_
        rintro e wx ⟨rfl, hbx⟩
        have Tx := T5.later hbx
        clear y0 yf0 y1 yf1 y2 yf2 T5 hbx q5
        have y0 := cell_of_row wx bd 0 _ _ _ Tx.rd
        have yf0 := frozen_of_row wx bd 0 _ _ Tx.rd
        have y1 := cell_of_row wx bd 1 _ _ _ Tx.rd
        have yf1 := frozen_of_row wx bd 1 _ _ Tx.rd
        have y2 := cell_of_row wx bd 2 _ _ _ Tx.rd
        have yf2 := frozen_of_row wx bd 2 _ _ Tx.rd
        have x5 := cell_of_row wx br 5 _ _ _ Tx.rr
        have xf5 := frozen_of_row wx br 5 _ _ Tx.rr
        go_upto_region 19 with fail
        obtain ⟨w6, hwy⟩ : ∃ wy, stp wx bd s o6 x6 br 5 (.string v5) = wy := ⟨_, rfl⟩
        have hwz := hwy
        unfold stp at hwz
        rw [hwz]
        have T6 : RT w w6 V s oj 0 n0 t1 n2 (rrv s) j va br #[.int .i64 (opA v0), .string v1, .string v2, .int .u64 (v3 : Int), .int .u64 (v4 : Int), .string v5, .string ⟨#[]⟩, .bool false] bd o6 x6 := by rw [← hwy]; exact Tx.stp o6 x6 5 (.string v5)
        clear hwy hwz Tx y0 yf0 y1 yf1 y2 yf2 x5 xf5
        have y0 := cell_of_row w6 bd 0 _ _ _ T6.rd
        have yf0 := frozen_of_row w6 bd 0 _ _ T6.rd
        have y1 := cell_of_row w6 bd 1 _ _ _ T6.rd
        have yf1 := frozen_of_row w6 bd 1 _ _ T6.rd
        have y2 := cell_of_row w6 bd 2 _ _ _ T6.rd
        have yf2 := frozen_of_row w6 bd 2 _ _ T6.rd
        have z0 := cell_of_row w6 V 0 _ _ _ T6.base.rc
        have zf0 := frozen_of_row w6 V 0 _ _ T6.base.rc
        have z1 := cell_of_row w6 V 1 _ _ _ T6.base.rc
        have zf1 := frozen_of_row w6 V 1 _ _ T6.base.rc
        have z2 := cell_of_row w6 V 2 _ _ _ T6.base.rc
        have zf2 := frozen_of_row w6 V 2 _ _ T6.base.rc
        go_upto_region 20 with fail
        obtain ⟨w7, hwy⟩ : ∃ wy, st3 w6 V s o6 x6 = wy := ⟨_, rfl⟩
        have hwz := hwy
        unfold st3 at hwz
        rw [hwz]
        have T7 : RT w w7 V s o6 x6 n0 t1 n2 (rrv s) j va br #[.int .i64 (opA v0), .string v1, .string v2, .int .u64 (v3 : Int), .int .u64 (v4 : Int), .string v5, .string ⟨#[]⟩, .bool false] bd o6 x6 := by rw [← hwy]; exact T6.setc o6 x6
        clear hwy hwz T6 y0 yf0 y1 yf1 y2 yf2 z0 zf0 z1 zf1 z2 zf2
        obtain ⟨op, hop⟩ : ∃ op, opA v0 = op := ⟨_, rfl⟩
        rw [hop] at T7
        have HRO : Hid (rrv s j = ⟨op, v1, v2, v3, v4, v5, ⟨#[]⟩, bodied op⟩) := by rw [← hop]; exact HR
        clear hop HR
        have hbod : bodied op = (decide (op = 3) || decide (op = 4)) := rfl
        obtain ⟨Bo, hBo⟩ : ∃ b, bodied op = b := ⟨_, rfl⟩
        have HRB : Hid (rrv s j = ⟨op, v1, v2, v3, v4, v5, ⟨#[]⟩, Bo⟩) := by rw [← hBo]; exact HRO
        rw [hBo] at hbod
        clear HRO hBo
        have x0 := cell_of_row w7 br 0 _ _ _ T7.rr
        have xf0 := frozen_of_row w7 br 0 _ _ T7.rr
        have x7 := cell_of_row w7 br 7 _ _ _ T7.rr
        have xf7 := frozen_of_row w7 br 7 _ _ T7.rr
        by_cases h3 : op = 3
        · have hb1 : Bo = true := by rw [hbod, decide_eq_true h3]; rfl
          subst hb1
          subst h3
          clear hbod
          go_upto_region 21 with fail
          obtain ⟨w8, hwy⟩ : ∃ wy, w7.setCell ⟨br, 7, none⟩ (.bool true) = wy := ⟨_, rfl⟩
          rw [hwy]
          have T8 : RT w w8 V s o6 x6 n0 t1 n2 (rrv s) j va br #[.int .i64 3, .string v1, .string v2, .int .u64 (v3 : Int), .int .u64 (v4 : Int), .string v5, .string ⟨#[]⟩, .bool true] bd o6 x6 := by rw [← hwy]; exact T7.setr 7 (.bool true)
          clear hwy T7 x0 xf0 x7 xf7
          have x0 := cell_of_row w8 br 0 _ _ _ T8.rr
          have xf0 := frozen_of_row w8 br 0 _ _ T8.rr
          have x1 := cell_of_row w8 br 1 _ _ _ T8.rr
          have xf1 := frozen_of_row w8 br 1 _ _ T8.rr
          have x2 := cell_of_row w8 br 2 _ _ _ T8.rr
          have xf2 := frozen_of_row w8 br 2 _ _ T8.rr
          have x3 := cell_of_row w8 br 3 _ _ _ T8.rr
          have xf3 := frozen_of_row w8 br 3 _ _ T8.rr
          have x4 := cell_of_row w8 br 4 _ _ _ T8.rr
          have xf4 := frozen_of_row w8 br 4 _ _ T8.rr
          have x5 := cell_of_row w8 br 5 _ _ _ T8.rr
          have xf5 := frozen_of_row w8 br 5 _ _ T8.rr
          have x6 := cell_of_row w8 br 6 _ _ _ T8.rr
          have xf6 := frozen_of_row w8 br 6 _ _ T8.rr
          have x7 := cell_of_row w8 br 7 _ _ _ T8.rr
          have xf7 := frozen_of_row w8 br 7 _ _ T8.rr
          have z3 := cell_of_row w8 (w.heap.size + 1) 3 _ _ _ T8.base.r1
          have zf3 := frozen_of_row w8 (w.heap.size + 1) 3 _ _ T8.base.r1
          have bal : Below w8.heap.size w8 (w8.alloc (.cells #[.int .i64 3, .string v1, .string v2, .int .u64 (v3 : Int), .int .u64 (v4 : Int), .string v5, .string ⟨#[]⟩, .bool true] 30)) := (Below.refl _ _).alloc (Nat.le_refl _) _
          have Dy := T8.base.later bal
          have hone : ∀ u ∈ [Value.int .i64 3, .string v1, .string v2, .int .u64 (v3 : Int), .int .u64 (v4 : Int), .string v5, .string ⟨#[]⟩, .bool true], u.oneCell' = true := by
            intro u hu
            simp only [List.mem_cons, List.not_mem_nil, or_false] at hu
            rcases hu with rfl | rfl | rfl | rfl | rfl | rfl | rfl | rfl <;> rfl
          have hnews := World.news_of_block (heap_alloc_new w8 (.cells #[.int .i64 3, .string v1, .string v2, .int .u64 (v3 : Int), .int .u64 (v4 : Int), .string v5, .string ⟨#[]⟩, .bool true] 30))
          have lv8 := lt_of_row T8.rr
          have own8 := Dy.own
          have fz3 := frozen_of_row _ _ 3 _ _ Dy.r1
          have cz3 := cell_of_row _ _ 3 _ _ _ Dy.r1
          have HNW := hidI hnews
          have HON := hidI hone
          have HDY := hidI Dy
          have HOW := hidI own8
          clear T8 bal hnews hone Dy own8 fz3 cz3
          have HB2 : Hid (∀ t, t < j + 1 → (rst s t).e = 0) := fun t ht => by
            by_cases e : t = j
            · rw [e, HJ.out]
            · exact HB.out t (by omega)
          have hj5 : w.heap.size + 1 < V + 1 := by omega
          have hj6 := lt_of_row HDY.out.r1
          have hj1 : j + 1 ≤ maxLen := by unfold maxLen; omega
          have hj2 : (j + 1) * 96 ≤ 140737488355328 := by omega
          have hj3 : V + 1 ≤ (w8.alloc (.cells #[.int .i64 3, .string v1, .string v2, .int .u64 (v3 : Int), .int .u64 (v4 : Int), .string v5, .string ⟨#[]⟩, .bool true] 30)).heap.size := by rw [World.size_alloc]; omega
          have hj4 := World.size_alloc w8 (.cells #[.int .i64 3, .string v1, .string v2, .int .u64 (v3 : Int), .int .u64 (v4 : Int), .string v5, .string ⟨#[]⟩, .bool true] 30)
          go_wp2_with (at_builtin; refine wpList_append_lies (w8.alloc (.cells #[.int .i64 3, .string v1, .string v2, .int .u64 (v3 : Int), .int .u64 (v4 : Int), .string v5, .string ⟨#[]⟩, .bool true] 30)) (by rfl) (.tmp 103) (.tmp 105) 39 (by rfl) (V + 1) 30 i30 _ 8 96 Tryd.underlying39 hi hz0 hz1 hz2 (by rfl) (by decide) va j (revC (rrv s) j) ?e1 HOW.out ⟨w8.heap.size, 0, none⟩ 1 1 [Value.int .i64 3, .string v1, .string v2, .int .u64 (v3 : Int), .int .u64 (v4 : Int), .string v5, .string ⟨#[]⟩, .bool true] ?e2 (by rfl) HNW.out HON.out (by decide) ?e3 ?e4 ?e5 (w8.heap.size + 1) ?e6 ?_; (case e1 => rfl); (case e2 => rfl); (case e3 => exact hj1); (case e4 => exact hj2); (case e5 => exact hj3); (case e6 => exact hj4); intro g6 cap6 w9 hown6 hgr6 hat6 hlt6; have hown7 : w9.ownsRow (V + 1) 30 8 (.slice (some ⟨g6, 0, none⟩) (j + 1) cap6) (j + 1) (revC (rrv s) j ++ (rrv s j).cs.toList) := (by rw [HRB.out]; exact hown6); have D9 : Hid (RD w (w9.setCell ⟨w.heap.size + 1, 3, none⟩ (.slice (some ⟨g6, 0, none⟩) (j + 1) cap6)) V s (rst s (j + 1)).o (rst s (j + 1)).e n0 t1 n2 (rrv s) (j + 1) (.slice (some ⟨g6, 0, none⟩) (j + 1) cap6)) := (by rw [HN.out]; exact HDY.out.app hgr6 hown7); have r19 := far_row hgr6 (fun k hk => (HOW.out.lt k hk).1) HDY.out.r1 hj5 hj6; have c93 := cell_of_row w9 _ 3 _ _ _ r19; have f93 := frozen_of_row w9 _ 3 _ _ r19; clear hown6 hown7 hgr6 hat6 hlt6 r19 HNW HON HDY HOW hj1 hj2 hj3 hj4 hj5 hj6)
          go_roundw
          case rel => exact ⟨j + 1, .slice (some ⟨g6, 0, none⟩) (j + 1) cap6, congrArg (Value.int .i64) (Int.natCast_succ j).symm, hlt, HB2, D9⟩
          case measure => simp [intOf]; omega
        · have h3d : decide (op = 3) = false := decide_eq_false h3
          by_cases h4 : op = 4
          · have hb1 : Bo = true := by rw [hbod, decide_eq_true h4, h3d]; rfl
            subst hb1
            subst h4
            clear hbod h3 h3d
            go_upto_region 21 with fail
            obtain ⟨w8, hwy⟩ : ∃ wy, w7.setCell ⟨br, 7, none⟩ (.bool true) = wy := ⟨_, rfl⟩
            rw [hwy]
            have T8 : RT w w8 V s o6 x6 n0 t1 n2 (rrv s) j va br #[.int .i64 4, .string v1, .string v2, .int .u64 (v3 : Int), .int .u64 (v4 : Int), .string v5, .string ⟨#[]⟩, .bool true] bd o6 x6 := by rw [← hwy]; exact T7.setr 7 (.bool true)
            clear hwy T7 x0 xf0 x7 xf7
            have x0 := cell_of_row w8 br 0 _ _ _ T8.rr
            have xf0 := frozen_of_row w8 br 0 _ _ T8.rr
            have x1 := cell_of_row w8 br 1 _ _ _ T8.rr
            have xf1 := frozen_of_row w8 br 1 _ _ T8.rr
            have x2 := cell_of_row w8 br 2 _ _ _ T8.rr
            have xf2 := frozen_of_row w8 br 2 _ _ T8.rr
            have x3 := cell_of_row w8 br 3 _ _ _ T8.rr
            have xf3 := frozen_of_row w8 br 3 _ _ T8.rr
            have x4 := cell_of_row w8 br 4 _ _ _ T8.rr
            have xf4 := frozen_of_row w8 br 4 _ _ T8.rr
            have x5 := cell_of_row w8 br 5 _ _ _ T8.rr
            have xf5 := frozen_of_row w8 br 5 _ _ T8.rr
            have x6 := cell_of_row w8 br 6 _ _ _ T8.rr
            have xf6 := frozen_of_row w8 br 6 _ _ T8.rr
            have x7 := cell_of_row w8 br 7 _ _ _ T8.rr
            have xf7 := frozen_of_row w8 br 7 _ _ T8.rr
            have z3 := cell_of_row w8 (w.heap.size + 1) 3 _ _ _ T8.base.r1
            have zf3 := frozen_of_row w8 (w.heap.size + 1) 3 _ _ T8.base.r1
            have bal : Below w8.heap.size w8 (w8.alloc (.cells #[.int .i64 4, .string v1, .string v2, .int .u64 (v3 : Int), .int .u64 (v4 : Int), .string v5, .string ⟨#[]⟩, .bool true] 30)) := (Below.refl _ _).alloc (Nat.le_refl _) _
            have Dy := T8.base.later bal
            have hone : ∀ u ∈ [Value.int .i64 4, .string v1, .string v2, .int .u64 (v3 : Int), .int .u64 (v4 : Int), .string v5, .string ⟨#[]⟩, .bool true], u.oneCell' = true := by
              intro u hu
              simp only [List.mem_cons, List.not_mem_nil, or_false] at hu
              rcases hu with rfl | rfl | rfl | rfl | rfl | rfl | rfl | rfl <;> rfl
            have hnews := World.news_of_block (heap_alloc_new w8 (.cells #[.int .i64 4, .string v1, .string v2, .int .u64 (v3 : Int), .int .u64 (v4 : Int), .string v5, .string ⟨#[]⟩, .bool true] 30))
            have lv8 := lt_of_row T8.rr
            have own8 := Dy.own
            have fz3 := frozen_of_row _ _ 3 _ _ Dy.r1
            have cz3 := cell_of_row _ _ 3 _ _ _ Dy.r1
            have HNW := hidI hnews
            have HON := hidI hone
            have HDY := hidI Dy
            have HOW := hidI own8
            clear T8 bal hnews hone Dy own8 fz3 cz3
            have HB2 : Hid (∀ t, t < j + 1 → (rst s t).e = 0) := fun t ht => by
              by_cases e : t = j
              · rw [e, HJ.out]
              · exact HB.out t (by omega)
            have hj5 : w.heap.size + 1 < V + 1 := by omega
            have hj6 := lt_of_row HDY.out.r1
            have hj1 : j + 1 ≤ maxLen := by unfold maxLen; omega
            have hj2 : (j + 1) * 96 ≤ 140737488355328 := by omega
            have hj3 : V + 1 ≤ (w8.alloc (.cells #[.int .i64 4, .string v1, .string v2, .int .u64 (v3 : Int), .int .u64 (v4 : Int), .string v5, .string ⟨#[]⟩, .bool true] 30)).heap.size := by rw [World.size_alloc]; omega
            have hj4 := World.size_alloc w8 (.cells #[.int .i64 4, .string v1, .string v2, .int .u64 (v3 : Int), .int .u64 (v4 : Int), .string v5, .string ⟨#[]⟩, .bool true] 30)
            go_wp2_with (at_builtin; refine wpList_append_lies (w8.alloc (.cells #[.int .i64 4, .string v1, .string v2, .int .u64 (v3 : Int), .int .u64 (v4 : Int), .string v5, .string ⟨#[]⟩, .bool true] 30)) (by rfl) (.tmp 103) (.tmp 105) 39 (by rfl) (V + 1) 30 i30 _ 8 96 Tryd.underlying39 hi hz0 hz1 hz2 (by rfl) (by decide) va j (revC (rrv s) j) ?e1 HOW.out ⟨w8.heap.size, 0, none⟩ 1 1 [Value.int .i64 4, .string v1, .string v2, .int .u64 (v3 : Int), .int .u64 (v4 : Int), .string v5, .string ⟨#[]⟩, .bool true] ?e2 (by rfl) HNW.out HON.out (by decide) ?e3 ?e4 ?e5 (w8.heap.size + 1) ?e6 ?_; (case e1 => rfl); (case e2 => rfl); (case e3 => exact hj1); (case e4 => exact hj2); (case e5 => exact hj3); (case e6 => exact hj4); intro g6 cap6 w9 hown6 hgr6 hat6 hlt6; have hown7 : w9.ownsRow (V + 1) 30 8 (.slice (some ⟨g6, 0, none⟩) (j + 1) cap6) (j + 1) (revC (rrv s) j ++ (rrv s j).cs.toList) := (by rw [HRB.out]; exact hown6); have D9 : Hid (RD w (w9.setCell ⟨w.heap.size + 1, 3, none⟩ (.slice (some ⟨g6, 0, none⟩) (j + 1) cap6)) V s (rst s (j + 1)).o (rst s (j + 1)).e n0 t1 n2 (rrv s) (j + 1) (.slice (some ⟨g6, 0, none⟩) (j + 1) cap6)) := (by rw [HN.out]; exact HDY.out.app hgr6 hown7); have r19 := far_row hgr6 (fun k hk => (HOW.out.lt k hk).1) HDY.out.r1 hj5 hj6; have c93 := cell_of_row w9 _ 3 _ _ _ r19; have f93 := frozen_of_row w9 _ 3 _ _ r19; clear hown6 hown7 hgr6 hat6 hlt6 r19 HNW HON HDY HOW hj1 hj2 hj3 hj4 hj5 hj6)
            go_roundw
            case rel => exact ⟨j + 1, .slice (some ⟨g6, 0, none⟩) (j + 1) cap6, congrArg (Value.int .i64) (Int.natCast_succ j).symm, hlt, HB2, D9⟩
            case measure => simp [intOf]; omega
          · have h4d : decide (op = 4) = false := decide_eq_false h4
            have h4b : (op == 4) = false := by simpa using h4
            have hb1 : Bo = false := by rw [hbod, h3d, h4d]; rfl
            subst hb1
            clear hbod
            go_upto_region 21 with fail
            obtain ⟨w8, hwy⟩ : ∃ wy, w7.setCell ⟨br, 7, none⟩ (.bool false) = wy := ⟨_, rfl⟩
            rw [hwy]
            have T8 : RT w w8 V s o6 x6 n0 t1 n2 (rrv s) j va br #[.int .i64 op, .string v1, .string v2, .int .u64 (v3 : Int), .int .u64 (v4 : Int), .string v5, .string ⟨#[]⟩, .bool false] bd o6 x6 := by rw [← hwy]; exact T7.setr 7 (.bool false)
            clear hwy T7 x0 xf0 x7 xf7
            have x0 := cell_of_row w8 br 0 _ _ _ T8.rr
            have xf0 := frozen_of_row w8 br 0 _ _ T8.rr
            have x1 := cell_of_row w8 br 1 _ _ _ T8.rr
            have xf1 := frozen_of_row w8 br 1 _ _ T8.rr
            have x2 := cell_of_row w8 br 2 _ _ _ T8.rr
            have xf2 := frozen_of_row w8 br 2 _ _ T8.rr
            have x3 := cell_of_row w8 br 3 _ _ _ T8.rr
            have xf3 := frozen_of_row w8 br 3 _ _ T8.rr
            have x4 := cell_of_row w8 br 4 _ _ _ T8.rr
            have xf4 := frozen_of_row w8 br 4 _ _ T8.rr
            have x5 := cell_of_row w8 br 5 _ _ _ T8.rr
            have xf5 := frozen_of_row w8 br 5 _ _ T8.rr
            have x6 := cell_of_row w8 br 6 _ _ _ T8.rr
            have xf6 := frozen_of_row w8 br 6 _ _ T8.rr
            have x7 := cell_of_row w8 br 7 _ _ _ T8.rr
            have xf7 := frozen_of_row w8 br 7 _ _ T8.rr
            have z3 := cell_of_row w8 (w.heap.size + 1) 3 _ _ _ T8.base.r1
            have zf3 := frozen_of_row w8 (w.heap.size + 1) 3 _ _ T8.base.r1
            have bal : Below w8.heap.size w8 (w8.alloc (.cells #[.int .i64 op, .string v1, .string v2, .int .u64 (v3 : Int), .int .u64 (v4 : Int), .string v5, .string ⟨#[]⟩, .bool false] 30)) := (Below.refl _ _).alloc (Nat.le_refl _) _
            have Dy := T8.base.later bal
            have hone : ∀ u ∈ [Value.int .i64 op, .string v1, .string v2, .int .u64 (v3 : Int), .int .u64 (v4 : Int), .string v5, .string ⟨#[]⟩, .bool false], u.oneCell' = true := by
              intro u hu
              simp only [List.mem_cons, List.not_mem_nil, or_false] at hu
              rcases hu with rfl | rfl | rfl | rfl | rfl | rfl | rfl | rfl <;> rfl
            have hnews := World.news_of_block (heap_alloc_new w8 (.cells #[.int .i64 op, .string v1, .string v2, .int .u64 (v3 : Int), .int .u64 (v4 : Int), .string v5, .string ⟨#[]⟩, .bool false] 30))
            have lv8 := lt_of_row T8.rr
            have own8 := Dy.own
            have fz3 := frozen_of_row _ _ 3 _ _ Dy.r1
            have cz3 := cell_of_row _ _ 3 _ _ _ Dy.r1
            have HNW := hidI hnews
            have HON := hidI hone
            have HDY := hidI Dy
            have HOW := hidI own8
            clear T8 bal hnews hone Dy own8 fz3 cz3
            have HB2 : Hid (∀ t, t < j + 1 → (rst s t).e = 0) := fun t ht => by
              by_cases e : t = j
              · rw [e, HJ.out]
              · exact HB.out t (by omega)
            have hj5 : w.heap.size + 1 < V + 1 := by omega
            have hj6 := lt_of_row HDY.out.r1
            have hj1 : j + 1 ≤ maxLen := by unfold maxLen; omega
            have hj2 : (j + 1) * 96 ≤ 140737488355328 := by omega
            have hj3 : V + 1 ≤ (w8.alloc (.cells #[.int .i64 op, .string v1, .string v2, .int .u64 (v3 : Int), .int .u64 (v4 : Int), .string v5, .string ⟨#[]⟩, .bool false] 30)).heap.size := by rw [World.size_alloc]; omega
            have hj4 := World.size_alloc w8 (.cells #[.int .i64 op, .string v1, .string v2, .int .u64 (v3 : Int), .int .u64 (v4 : Int), .string v5, .string ⟨#[]⟩, .bool false] 30)
            go_wp2_with (at_builtin; refine wpList_append_lies (w8.alloc (.cells #[.int .i64 op, .string v1, .string v2, .int .u64 (v3 : Int), .int .u64 (v4 : Int), .string v5, .string ⟨#[]⟩, .bool false] 30)) (by rfl) (.tmp 103) (.tmp 105) 39 (by rfl) (V + 1) 30 i30 _ 8 96 Tryd.underlying39 hi hz0 hz1 hz2 (by rfl) (by decide) va j (revC (rrv s) j) ?e1 HOW.out ⟨w8.heap.size, 0, none⟩ 1 1 [Value.int .i64 op, .string v1, .string v2, .int .u64 (v3 : Int), .int .u64 (v4 : Int), .string v5, .string ⟨#[]⟩, .bool false] ?e2 (by rfl) HNW.out HON.out (by decide) ?e3 ?e4 ?e5 (w8.heap.size + 1) ?e6 ?_; (case e1 => rfl); (case e2 => rfl); (case e3 => exact hj1); (case e4 => exact hj2); (case e5 => exact hj3); (case e6 => exact hj4); intro g6 cap6 w9 hown6 hgr6 hat6 hlt6; have hown7 : w9.ownsRow (V + 1) 30 8 (.slice (some ⟨g6, 0, none⟩) (j + 1) cap6) (j + 1) (revC (rrv s) j ++ (rrv s j).cs.toList) := (by rw [HRB.out]; exact hown6); have D9 : Hid (RD w (w9.setCell ⟨w.heap.size + 1, 3, none⟩ (.slice (some ⟨g6, 0, none⟩) (j + 1) cap6)) V s (rst s (j + 1)).o (rst s (j + 1)).e n0 t1 n2 (rrv s) (j + 1) (.slice (some ⟨g6, 0, none⟩) (j + 1) cap6)) := (by rw [HN.out]; exact HDY.out.app hgr6 hown7); have r19 := far_row hgr6 (fun k hk => (HOW.out.lt k hk).1) HDY.out.r1 hj5 hj6; have c93 := cell_of_row w9 _ 3 _ _ _ r19; have f93 := frozen_of_row w9 _ 3 _ _ r19; clear hown6 hown7 hgr6 hat6 hlt6 r19 HNW HON HDY HOW hj1 hj2 hj3 hj4 hj5 hj6)
            go_roundw
            case rel => exact ⟨j + 1, .slice (some ⟨g6, 0, none⟩) (j + 1) cap6, congrArg (Value.int .i64) (Int.natCast_succ j).symm, hlt, HB2, D9⟩
            case measure => simp [intOf]; omega
    · have hEE0 : (if ej = 0 ∧ oj < s.size then 5 else ej) = endE s ∧ (endE s = 0 → j = K) := by
        rw [HE.out]
        by_cases hlt : j < K
        · have hne : ej ≠ 0 := fun h => hgo ⟨hlt, h⟩
          have hst := rst_stays (s := s) (j := j) (by rw [HJ.out]; exact hne) K (by omega)
          rw [HJ.out] at hst
          simp only at hst
          rw [if_neg (fun h => hne h.1), hst, if_pos hne]
          exact ⟨by first | rfl | trivial, fun h => absurd h hne⟩
        · obtain rfl : j = K := by omega
          rw [HJ.out]
          simp only
          refine ⟨?_, fun _ => by first | rfl | trivial⟩
          by_cases h : ej = 0
          · rw [h]
            by_cases h2 : oj < s.size
            · rw [if_pos ⟨rfl, h2⟩, if_neg (by simp), if_pos h2]
            · rw [if_neg (fun h => h2 h.2), if_neg (by simp), if_neg h2]
          · rw [if_neg (fun h2 => h h2.1), if_pos h]
      have kE := fun W => rend_at s oj ej W
      rw [hEE0.1] at kE
      have hFE : RE = if endE s ≠ 0 then endE s else fe (rrv s) K := HRE.out.symm.trans HF.out
      obtain ⟨EE, hEE⟩ : ∃ x, endE s = x := ⟨_, rfl⟩
      rw [hEE] at kE hFE
      have HEK : Hid (EE = 0 → j = K) := by rw [← hEE]; exact hEE0.2
      have HFE : Hid (RE = if EE ≠ 0 then EE else fe (rrv s) K) := hFE
      clear hEE0 hFE hEE HE HF
      have hcond : (j : Int) < (K : Int) → ¬ ej = 0 := fun h1 h2 => hgo ⟨by omega, h2⟩
      have HC : Hid ((j : Int) < (K : Int) → ¬ ej = 0) := hcond
      clear hcond hgo
      have y0 := cell_of_row wr V 0 _ _ _ D.rc
      have y1 := cell_of_row wr V 1 _ _ _ D.rc
      have y2 := cell_of_row wr V 2 _ _ _ D.rc
      have main : ∀ (b : Bool), True := fun _ => trivial
      by_cases hlt : (j : Int) < (K : Int)
      · have hne := HC.out hlt
        have hned : decide (ej = 0) = false := decide_eq_false hne
        go_wp2_with fail
        refine (kE _).mono ?_
        rintro e wx ⟨rfl, hbx⟩
        have Dx := D.later hbx
        clear y0 y1 y2 D hbx kE
        have y0 := cell_of_row wx V 0 _ _ _ Dx.rc
        have y1 := cell_of_row wx V 1 _ _ _ Dx.rc
        have y2 := cell_of_row wx V 2 _ _ _ Dx.rc
        have yf0 := frozen_of_row wx V 0 _ _ Dx.rc
        have yf1 := frozen_of_row wx V 1 _ _ Dx.rc
        have yf2 := frozen_of_row wx V 2 _ _ Dx.rc
        go_upto_region 23 with fail
        obtain ⟨wy, hwy⟩ : ∃ wy, st3 wx V s oj EE = wy := ⟨_, rfl⟩
        have hwz := hwy
        unfold st3 at hwz
        rw [hwz]
        have Dy : RD w wy V s oj EE n0 t1 n2 (rrv s) j va := by rw [← hwy]; exact Dx.setc oj EE
        clear hwy hwz Dx y0 y1 y2 yf0 yf1 yf2
        go_wp2
        go_loopw [12] (fun v12 wq => ∃ (m : Nat) (F : Int), v12 = .int .i64 (m : Int) ∧ m ≤ j ∧ Hid (F = if EE ≠ 0 then EE else fe (rrv s) m) ∧ RD w wq V s oj F n0 t1 n2 (rrv s) j va) (fun v12 _ => j - (intOf v12).toNat)
        case atStart => exact ⟨0, EE, rfl, Nat.zero_le _, if_self0 EE, Dy⟩
        case round =>
          clear Dy
          obtain ⟨m, F, rfl, hmj, HM, Dm⟩ := hrel
          have z3 := cell_of_row wr (w.heap.size + 1) 3 _ _ _ Dm.r1
          have y2 := cell_of_row wr V 2 _ _ _ Dm.rc
          have yf2 := frozen_of_row wr V 2 _ _ Dm.rc
          have hva : ∃ q d, va = .slice q j d ∧ Revs wr q j d (rrv s) := by
            rcases Nat.eq_zero_or_pos j with rfl | hpos
            · rcases Dm.own.2 with ⟨h1, _⟩ | ⟨g, cap, cur, h1, h2, h3, h4, h5, h6⟩
              · exact ⟨none, 0, h1, ⟨⟨Nat.le_refl _, Nat.zero_le _⟩, fun i hi => absurd hi (Nat.not_lt_zero _), fun h => absurd h (Nat.lt_irrefl _)⟩⟩
              · exact ⟨_, cap, h1, ⟨⟨Nat.zero_le _, h5⟩, fun i hi => absurd hi (Nat.not_lt_zero _), fun h => absurd h (Nat.lt_irrefl _)⟩⟩
            · obtain ⟨g, cap, hv1, _, _⟩ := Dm.own.form hpos
              have hown := Dm.own
              rw [hv1] at hown
              obtain ⟨r1, r2, r3⟩ := Rowd.of_own hown
              exact ⟨_, cap, hv1, r1.revs r3 (fun i _ => rrv_fit hs i)⟩
          obtain ⟨qv, dv, rfl, hRv⟩ := hva
          have hcapv := hRv.cap
          by_cases hgo2 : m < j ∧ F = 0
          · obtain ⟨hmlt, rfl⟩ := hgo2
            have hmlt' : (m : Int) < (j : Int) := by omega
            have hEE2 : EE = 0 ∧ fe (rrv s) m = 0 := by
              have h := HM.out
              by_cases h2 : EE = 0
              · rw [if_neg (by simpa using h2)] at h
                exact ⟨h2, h.symm⟩
              · rw [if_pos h2] at h
                exact absurd h.symm h2
            obtain ⟨pb, po, rfl, hpb, hat⟩ := hRv.at' (by omega)
            have h8 := hat m hmlt
            have kc := fun W => rcheck_any (rrv s m) (rrv_fit hs m) W
            have hck : fe (rrv s) (m + 1) = checkR (rrv s m) := by simp only [fe, hEE2.2, if_true]
            have HCK : Hid (checkR (rrv s m) = if EE ≠ 0 then EE else fe (rrv s) (m + 1)) := by unfold Hid; rw [hEE2.1, if_neg (by simp), hck]
            obtain ⟨⟨op, t, f, dd, v, h, bo, gg⟩, hri⟩ : ∃ r, rrv s m = r := ⟨_, rfl⟩
            rw [hri] at h8 kc HCK
            have e0 := h8.c0
            have e1' := h8.c1
            have e2' := h8.c2
            have e3' := h8.c3
            have e4 := h8.c4
            have e5 := h8.c5
            have e6 := h8.c6
            have e7 := h8.c7
            simp only at e0 e1' e2' e3' e4 e5 e6 e7
            simp only [Rv.val, Rv.cs] at kc
            obtain ⟨CR, hCR⟩ : ∃ x, checkR ⟨op, t, f, dd, v, h, bo, gg⟩ = x := ⟨_, rfl⟩
            rw [hCR] at kc HCK
            clear hat hck hEE2 hri hCR h8
            go_wp2_with fail
            refine (kc _).mono ?_
            rintro e wz ⟨rfl, hbz⟩
            have Dz := Dm.later hbz
            have y2' := cell_of_row wz V 2 _ _ _ Dz.rc
            have yf2' := frozen_of_row wz V 2 _ _ Dz.rc
            have Dn := hidI (Dz.sete CR)
            clear z3 y2 yf2 Dm kc hRv
            go_wp2
            go_roundw
            case rel => exact ⟨m + 1, CR, by simp, hmlt, HCK, Dn.out⟩
            case measure => simp [intOf]; omega
          · have hRF : F = RE ∧ (F = 0 → m = j ∧ j = K) := by
              have h1 := HM.out
              have h2 := HFE.out
              by_cases hE : EE = 0
              · have hjK2 := HEK.out hE
                rw [if_neg (by simpa using hE)] at h1 h2
                by_cases hF : F = 0
                · have hmj2 : m = j := by
                    rcases Nat.lt_or_ge m j with h | h
                    · exact absurd ⟨h, hF⟩ hgo2
                    · omega
                  exact ⟨by rw [h1, h2, hmj2, hjK2], fun _ => ⟨hmj2, hjK2⟩⟩
                · refine ⟨?_, fun h => absurd h hF⟩
                  rw [h1, h2, fe_stays (by rw [← h1]; exact hF) K (by omega)]
              · rw [if_pos hE] at h1 h2
                exact ⟨h1.trans h2.symm, fun h => absurd (h1.symm.trans h) hE⟩
            have w0 := cell_of_row wr w.heap.size 0 _ _ _ Dm.r0
            have w1' := cell_of_row wr w.heap.size 1 _ _ _ Dm.r0
            have w2' := cell_of_row wr w.heap.size 2 _ _ _ Dm.r0
            have w3' := cell_of_row wr w.heap.size 3 _ _ _ Dm.r0
            have wf0 := frozen_of_row wr w.heap.size 0 _ _ Dm.r0
            have wf1 := frozen_of_row wr w.heap.size 1 _ _ Dm.r0
            have wf2 := frozen_of_row wr w.heap.size 2 _ _ Dm.r0
            have wf3 := frozen_of_row wr w.heap.size 3 _ _ Dm.r0
            have z0 := cell_of_row wr (w.heap.size + 1) 0 _ _ _ Dm.r1
            have z1 := cell_of_row wr (w.heap.size + 1) 1 _ _ _ Dm.r1
            have z2 := cell_of_row wr (w.heap.size + 1) 2 _ _ _ Dm.r1
            obtain ⟨rfl, hF0⟩ := hRF
            have nq1 : ¬ V = w.heap.size := by omega
            have nq2 : ¬ w.heap.size = V := by omega
            have HF0 : Hid (F = 0 → m = j ∧ j = K) := hF0
            have hr0 := Dm.r0
            have hbel := Dm.bel
            have HG : Hid (m < j → ¬ F = 0) := fun h1 h2 => hgo2 ⟨h1, h2⟩
            clear hF0 hgo2
            by_cases hF : F = 0
            · obtain ⟨rfl, rfl⟩ := HF0.out hF
              subst hF
              clear HG HF0
              first
              | (exfalso; omega)
              | (go_wp2
                 refine bodyPost_ret (v := .tuple #[.agg #[.int .u64 (n0 : Int), .string t1, .int .u64 (n2 : Int), .slice qv m dv], .int .i64 0]) (results_row_tmp Tryd.results31 _ _ w.heap.size 41 _ (0, 0) _ rfl (set4_row hr0 _ _ _ _) Tryd.underlying41 rfl (by kernel_rfl)) rfl ?_
                 rw [HP.out]
                 refine ⟨⟨n0, t1, n2, m, rrv s⟩, qv, dv, rfl, fun _ => ⟨HX.out.symm, ?_⟩, set4_below hbel w.heap.size (Nat.le_refl _) _ _ _ _⟩
                 refine hRv.kept (w' := set4 wr w.heap.size _ _ _ _) (by rw [set4_size]; omega) (fun g hg => set4_block _ _ _ _ _ _ _ ?_)
                 have : V + 1 ≤ g := (Dm.own.lt g (by cases qv with | none => cases hg | some a => exact hg)).1
                 omega)
            · have hFd : decide (F = 0) = false := decide_eq_false hF
              have hF1 : (F != 0) = true := by simpa using hF
              by_cases hmj3 : (m : Int) < (j : Int)
              · go_wp2
                go_region
                all_goals
                  go_wp2
                  refine bodyPost_ret (v := .tuple #[.agg #[.int .u64 0, .string ⟨#[]⟩, .int .u64 0, .slice none 0 0], .int .i64 F]) (results_row_tmp Tryd.results31 _ _ w.heap.size 41 _ (0, 0) _ rfl (set4_row (w := wr.drew) hr0 _ _ _ _) Tryd.underlying41 rfl (by kernel_rfl)) rfl ?_
                  rw [HP.out]
                  exact ⟨⟨0, ⟨#[]⟩, 0, 0, rrv s⟩, none, 0, rfl, fun h => absurd h hF, set4_below hbel.drew w.heap.size (Nat.le_refl _) _ _ _ _⟩
              · have hmd : decide ((m : Int) < (j : Int)) = false := decide_eq_false hmj3
                go_wp2
                go_region
                all_goals
                  go_wp2
                  refine bodyPost_ret (v := .tuple #[.agg #[.int .u64 0, .string ⟨#[]⟩, .int .u64 0, .slice none 0 0], .int .i64 F]) (results_row_tmp Tryd.results31 _ _ w.heap.size 41 _ (0, 0) _ rfl (set4_row (w := wr.drew) hr0 _ _ _ _) Tryd.underlying41 rfl (by kernel_rfl)) rfl ?_
                  rw [HP.out]
                  exact ⟨⟨0, ⟨#[]⟩, 0, 0, rrv s⟩, none, 0, rfl, fun h => absurd h hF, set4_below hbel.drew w.heap.size (Nat.le_refl _) _ _ _ _⟩
      · have hltd : decide ((j : Int) < (K : Int)) = false := decide_eq_false hlt
        go_wp2_with fail
        refine (kE _).mono ?_
        rintro e wx ⟨rfl, hbx⟩
        have Dx := D.later hbx
        clear y0 y1 y2 D hbx kE
        have y0 := cell_of_row wx V 0 _ _ _ Dx.rc
        have y1 := cell_of_row wx V 1 _ _ _ Dx.rc
        have y2 := cell_of_row wx V 2 _ _ _ Dx.rc
        have yf0 := frozen_of_row wx V 0 _ _ Dx.rc
        have yf1 := frozen_of_row wx V 1 _ _ Dx.rc
        have yf2 := frozen_of_row wx V 2 _ _ Dx.rc
        go_upto_region 23 with fail
        obtain ⟨wy, hwy⟩ : ∃ wy, st3 wx V s oj EE = wy := ⟨_, rfl⟩
        have hwz := hwy
        unfold st3 at hwz
        rw [hwz]
        have Dy : RD w wy V s oj EE n0 t1 n2 (rrv s) j va := by rw [← hwy]; exact Dx.setc oj EE
        clear hwy hwz Dx y0 y1 y2 yf0 yf1 yf2
        go_wp2
        go_loopw [12] (fun v12 wq => ∃ (m : Nat) (F : Int), v12 = .int .i64 (m : Int) ∧ m ≤ j ∧ Hid (F = if EE ≠ 0 then EE else fe (rrv s) m) ∧ RD w wq V s oj F n0 t1 n2 (rrv s) j va) (fun v12 _ => j - (intOf v12).toNat)
        case atStart => exact ⟨0, EE, rfl, Nat.zero_le _, if_self0 EE, Dy⟩
        case round =>
          clear Dy
          obtain ⟨m, F, rfl, hmj, HM, Dm⟩ := hrel
          have z3 := cell_of_row wr (w.heap.size + 1) 3 _ _ _ Dm.r1
          have y2 := cell_of_row wr V 2 _ _ _ Dm.rc
          have yf2 := frozen_of_row wr V 2 _ _ Dm.rc
          have hva : ∃ q d, va = .slice q j d ∧ Revs wr q j d (rrv s) := by
            rcases Nat.eq_zero_or_pos j with rfl | hpos
            · rcases Dm.own.2 with ⟨h1, _⟩ | ⟨g, cap, cur, h1, h2, h3, h4, h5, h6⟩
              · exact ⟨none, 0, h1, ⟨⟨Nat.le_refl _, Nat.zero_le _⟩, fun i hi => absurd hi (Nat.not_lt_zero _), fun h => absurd h (Nat.lt_irrefl _)⟩⟩
              · exact ⟨_, cap, h1, ⟨⟨Nat.zero_le _, h5⟩, fun i hi => absurd hi (Nat.not_lt_zero _), fun h => absurd h (Nat.lt_irrefl _)⟩⟩
            · obtain ⟨g, cap, hv1, _, _⟩ := Dm.own.form hpos
              have hown := Dm.own
              rw [hv1] at hown
              obtain ⟨r1, r2, r3⟩ := Rowd.of_own hown
              exact ⟨_, cap, hv1, r1.revs r3 (fun i _ => rrv_fit hs i)⟩
          obtain ⟨qv, dv, rfl, hRv⟩ := hva
          have hcapv := hRv.cap
          by_cases hgo2 : m < j ∧ F = 0
          · obtain ⟨hmlt, rfl⟩ := hgo2
            have hmlt' : (m : Int) < (j : Int) := by omega
            have hEE2 : EE = 0 ∧ fe (rrv s) m = 0 := by
              have h := HM.out
              by_cases h2 : EE = 0
              · rw [if_neg (by simpa using h2)] at h
                exact ⟨h2, h.symm⟩
              · rw [if_pos h2] at h
                exact absurd h.symm h2
            obtain ⟨pb, po, rfl, hpb, hat⟩ := hRv.at' (by omega)
            have h8 := hat m hmlt
            have kc := fun W => rcheck_any (rrv s m) (rrv_fit hs m) W
            have hck : fe (rrv s) (m + 1) = checkR (rrv s m) := by simp only [fe, hEE2.2, if_true]
            have HCK : Hid (checkR (rrv s m) = if EE ≠ 0 then EE else fe (rrv s) (m + 1)) := by unfold Hid; rw [hEE2.1, if_neg (by simp), hck]
            obtain ⟨⟨op, t, f, dd, v, h, bo, gg⟩, hri⟩ : ∃ r, rrv s m = r := ⟨_, rfl⟩
            rw [hri] at h8 kc HCK
            have e0 := h8.c0
            have e1' := h8.c1
            have e2' := h8.c2
            have e3' := h8.c3
            have e4 := h8.c4
            have e5 := h8.c5
            have e6 := h8.c6
            have e7 := h8.c7
            simp only at e0 e1' e2' e3' e4 e5 e6 e7
            simp only [Rv.val, Rv.cs] at kc
            obtain ⟨CR, hCR⟩ : ∃ x, checkR ⟨op, t, f, dd, v, h, bo, gg⟩ = x := ⟨_, rfl⟩
            rw [hCR] at kc HCK
            clear hat hck hEE2 hri hCR h8
            go_wp2_with fail
            refine (kc _).mono ?_
            rintro e wz ⟨rfl, hbz⟩
            have Dz := Dm.later hbz
            have y2' := cell_of_row wz V 2 _ _ _ Dz.rc
            have yf2' := frozen_of_row wz V 2 _ _ Dz.rc
            have Dn := hidI (Dz.sete CR)
            clear z3 y2 yf2 Dm kc hRv
            go_wp2
            go_roundw
            case rel => exact ⟨m + 1, CR, by simp, hmlt, HCK, Dn.out⟩
            case measure => simp [intOf]; omega
          · have hRF : F = RE ∧ (F = 0 → m = j ∧ j = K) := by
              have h1 := HM.out
              have h2 := HFE.out
              by_cases hE : EE = 0
              · have hjK2 := HEK.out hE
                rw [if_neg (by simpa using hE)] at h1 h2
                by_cases hF : F = 0
                · have hmj2 : m = j := by
                    rcases Nat.lt_or_ge m j with h | h
                    · exact absurd ⟨h, hF⟩ hgo2
                    · omega
                  exact ⟨by rw [h1, h2, hmj2, hjK2], fun _ => ⟨hmj2, hjK2⟩⟩
                · refine ⟨?_, fun h => absurd h hF⟩
                  rw [h1, h2, fe_stays (by rw [← h1]; exact hF) K (by omega)]
              · rw [if_pos hE] at h1 h2
                exact ⟨h1.trans h2.symm, fun h => absurd (h1.symm.trans h) hE⟩
            have w0 := cell_of_row wr w.heap.size 0 _ _ _ Dm.r0
            have w1' := cell_of_row wr w.heap.size 1 _ _ _ Dm.r0
            have w2' := cell_of_row wr w.heap.size 2 _ _ _ Dm.r0
            have w3' := cell_of_row wr w.heap.size 3 _ _ _ Dm.r0
            have wf0 := frozen_of_row wr w.heap.size 0 _ _ Dm.r0
            have wf1 := frozen_of_row wr w.heap.size 1 _ _ Dm.r0
            have wf2 := frozen_of_row wr w.heap.size 2 _ _ Dm.r0
            have wf3 := frozen_of_row wr w.heap.size 3 _ _ Dm.r0
            have z0 := cell_of_row wr (w.heap.size + 1) 0 _ _ _ Dm.r1
            have z1 := cell_of_row wr (w.heap.size + 1) 1 _ _ _ Dm.r1
            have z2 := cell_of_row wr (w.heap.size + 1) 2 _ _ _ Dm.r1
            obtain ⟨rfl, hF0⟩ := hRF
            have nq1 : ¬ V = w.heap.size := by omega
            have nq2 : ¬ w.heap.size = V := by omega
            have HF0 : Hid (F = 0 → m = j ∧ j = K) := hF0
            have hr0 := Dm.r0
            have hbel := Dm.bel
            have HG : Hid (m < j → ¬ F = 0) := fun h1 h2 => hgo2 ⟨h1, h2⟩
            clear hF0 hgo2
            by_cases hF : F = 0
            · obtain ⟨rfl, rfl⟩ := HF0.out hF
              subst hF
              clear HG HF0
              first
              | (exfalso; omega)
              | (go_wp2
                 refine bodyPost_ret (v := .tuple #[.agg #[.int .u64 (n0 : Int), .string t1, .int .u64 (n2 : Int), .slice qv m dv], .int .i64 0]) (results_row_tmp Tryd.results31 _ _ w.heap.size 41 _ (0, 0) _ rfl (set4_row hr0 _ _ _ _) Tryd.underlying41 rfl (by kernel_rfl)) rfl ?_
                 rw [HP.out]
                 refine ⟨⟨n0, t1, n2, m, rrv s⟩, qv, dv, rfl, fun _ => ⟨HX.out.symm, ?_⟩, set4_below hbel w.heap.size (Nat.le_refl _) _ _ _ _⟩
                 refine hRv.kept (w' := set4 wr w.heap.size _ _ _ _) (by rw [set4_size]; omega) (fun g hg => set4_block _ _ _ _ _ _ _ ?_)
                 have : V + 1 ≤ g := (Dm.own.lt g (by cases qv with | none => cases hg | some a => exact hg)).1
                 omega)
            · have hFd : decide (F = 0) = false := decide_eq_false hF
              have hF1 : (F != 0) = true := by simpa using hF
              by_cases hmj3 : (m : Int) < (j : Int)
              · go_wp2
                go_region
                all_goals
                  go_wp2
                  refine bodyPost_ret (v := .tuple #[.agg #[.int .u64 0, .string ⟨#[]⟩, .int .u64 0, .slice none 0 0], .int .i64 F]) (results_row_tmp Tryd.results31 _ _ w.heap.size 41 _ (0, 0) _ rfl (set4_row (w := wr.drew) hr0 _ _ _ _) Tryd.underlying41 rfl (by kernel_rfl)) rfl ?_
                  rw [HP.out]
                  exact ⟨⟨0, ⟨#[]⟩, 0, 0, rrv s⟩, none, 0, rfl, fun h => absurd h hF, set4_below hbel.drew w.heap.size (Nat.le_refl _) _ _ _ _⟩
              · have hmd : decide ((m : Int) < (j : Int)) = false := decide_eq_false hmj3
                go_wp2
                go_region
                all_goals
                  go_wp2
                  refine bodyPost_ret (v := .tuple #[.agg #[.int .u64 0, .string ⟨#[]⟩, .int .u64 0, .slice none 0 0], .int .i64 F]) (results_row_tmp Tryd.results31 _ _ w.heap.size 41 _ (0, 0) _ rfl (set4_row (w := wr.drew) hr0 _ _ _ _) Tryd.underlying41 rfl (by kernel_rfl)) rfl ?_
                  rw [HP.out]
                  exact ⟨⟨0, ⟨#[]⟩, 0, 0, rrv s⟩, none, 0, rfl, fun h => absurd h hF, set4_below hbel.drew w.heap.size (Nat.le_refl _) _ _ _ _⟩
end Go.Proofs.YtaocbkloafhmeaaDoor
