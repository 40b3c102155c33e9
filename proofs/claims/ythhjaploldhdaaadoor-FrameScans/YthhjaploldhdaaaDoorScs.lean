/- FrameScans, called: of any texts and numbers the call returns true, and nothing that was there has changed. -/
import Derived.Test.YthhjaploldhdaaaDoorRsc
import Derived.Test.YthhjaploldhdaaaDoorRdq
namespace Go.Proofs.YthhjaploldhdaaaDoor
open Go Go.RowKit Go.Shelf
attribute [local go_sem] Oper.semAt_some
theorem q_at {P : Program} {o : Oper} {a : Act} {C : World → Prop} {K : Act → Prop} {v : Value} (hrun : ∀ W, C W → (execOp a.eval o).run P W = .ok (.value v) W) (hk : K (a.put o.dst v)) : o.quiet P a C K :=
  ⟨v, fun W hW => by unfold Oper.quietAt; rw [hrun W hW]; exact ⟨rfl, rfl⟩, hk⟩
theorem t_same {t u : ByteArray} {l : List UInt8} (h : t.data.toList = l) (k : u.data.toList = l) : t = u := by
  apply ByteArray.ext
  apply Array.toList_inj.1
  rw [h, k]
theorem xor_byte (p q : Int) : ∃ b : UInt8, bits BinOp.xor IntKind.u8 p q = (b.toNat : Int) := by
  have h : ∃ z : Int, bits BinOp.xor IntKind.u8 p q = IntKind.u8.wrap z := ⟨_, rfl⟩
  obtain ⟨z, hz⟩ := h
  have hw : IntKind.u8.wrap z = z % 256 := by rw [IntKind.wrap_u8']
  refine ⟨UInt8.ofNat (z % 256).toNat, ?_⟩
  rw [hz, hw]
  have h1 := Int.emod_nonneg z (show (256 : Int) ≠ 0 by decide)
  have h2 := Int.emod_lt_of_pos z (show (0 : Int) < 256 by decide)
  rw [UInt8.toNat_ofNat']
  omega
theorem head12 (l : List UInt8) : (⟨(frameL l).toArray⟩ : ByteArray).extract 0 12 = ⟨(headL l).toArray⟩ := by
  have h := ext_list ⟨(frameL l).toArray⟩ 0 12
  have e : (⟨(frameL l).toArray⟩ : ByteArray).data.toList = frameL l := rfl
  rw [e] at h
  have e2 : sub (frameL l) 0 12 = headL l := by
    unfold sub frameL
    rw [List.drop_zero, List.take_append_of_le_length (by rw [headL_len]; omega), List.take_of_length_le (by rw [headL_len]; omega)]
  rw [e2] at h
  exact t_same h rfl
/-- The same, and no panic. -/
def calm (Q : Exit → Act → World → Prop) : Exit → Act → World → Prop
  | .panic _, _, _ => False
  | .normal, a, w => Q .normal a w
  | .ret, a, w => Q .ret a w
  | .exit i, a, w => Q (.exit i) a w
  | .goto t, a, w => Q (.goto t) a w
  | .outgrown, a, w => Q .outgrown a w
theorem calm_out {Q : Exit → Act → World → Prop} {e : Exit} {a : Act} {w : World} (h : calm Q e a w) : Q e a w := by
  cases e <;> first | exact h | exact h.elim
theorem cellsOf_mid (pre tl : List Fr) (x : Fr) : (cellsOf (pre ++ x :: tl))[pre.length * 3]? = some (.int .i64 (x.at_ : Nat)) ∧ (cellsOf (pre ++ x :: tl))[pre.length * 3 + 1]? = some (.string ⟨x.body.toArray⟩) ∧ (cellsOf (pre ++ x :: tl))[pre.length * 3 + 2]? = some (.bool x.good) := by
  have e : cellsOf (pre ++ x :: tl) = cellsOf pre ++ (.int .i64 (x.at_ : Nat) :: .string ⟨x.body.toArray⟩ :: .bool x.good :: cellsOf tl) := by simp [cellsOf]
  have hl := cellsOf_len pre
  rw [e]
  refine ⟨?_, ?_, ?_⟩
  · rw [List.getElem?_append_right (by omega)]; simp [hl]
  · rw [List.getElem?_append_right (by omega), hl, show pre.length * 3 + 1 - pre.length * 3 = 1 by omega]; rfl
  · rw [List.getElem?_append_right (by omega), hl, show pre.length * 3 + 2 - pre.length * 3 = 2 by omega]; rfl
/-- What the second loop over a text's frames holds between two rounds. -/
structure ScJ (W0 : World) (b n1 : Nat) (pre : List Fr) (A : World) : Prop where
  box : Boxed A b 3 (.int .i64 (pre.length : Nat))
  keep : ∀ k, k < W0.heap.size → k ≠ b → A.heap[k]? = W0.heap[k]?
  env : A.os = W0.os ∧ A.tape = W0.tape ∧ A.output = W0.output
  size : W0.heap.size ≤ A.heap.size
  n1 : n1 ≤ A.heap.size
theorem ScJ.go {W0 : World} {b n1 : Nat} {pre : List Fr} {A B : World} (h : ScJ W0 b n1 pre A) (hb : b < W0.heap.size) {c : Nat} (hc : W0.heap.size ≤ c) (hB : Below c A B) : ScJ W0 b n1 pre B :=
  ⟨(hB.block _ (by omega)).trans h.box, fun k hk hne => (hB.block k (by omega)).trans (h.keep k hk hne), ⟨hB.os.trans h.env.1, hB.tape.trans h.env.2.1, hB.output.trans h.env.2.2⟩, Nat.le_trans h.size hB.size, Nat.le_trans h.n1 hB.size⟩
theorem ScJ.put {W0 : World} {b n1 : Nat} {pre : List Fr} {A : World} (h : ScJ W0 b n1 pre A) (m : Nat) (hm : W0.heap.size ≤ m) (hb : b < W0.heap.size) (o : Obj) : ScJ W0 b n1 pre (A.putObj m o) :=
  h.go hb (Nat.le_refl _) ⟨rfl, rfl, rfl, by simp [World.putObj], fun k hk => World.putObj_heap_other (by omega)⟩
theorem ScJ.gl {W0 : World} {b n1 : Nat} {pre : List Fr} {A : World} (h : ScJ W0 b n1 pre A) (hG : GL W0) (h0 : 0 < b) : GL A := by
  intro i hi
  have h1 := hG i hi
  have h2 := World.block_lt_of_cell? _ _ h1
  exact (heap_cell (h.keep 0 h2 (by omega))).trans h1
set_option maxRecDepth 20000 in
set_option maxHeartbeats 4000000 in
theorem scans_walk (a : Option Addr) (cap : Nat) (xs : List ByteArray) (rest : ByteArray) (x y : Int) (w : World) (hG : GL w) (hml : xs.length ≤ maxLen)
    (hL : 0 < xs.length → ∃ g q, a = some ⟨g, q, none⟩ ∧ ∀ i, i < xs.length → w.cell? ⟨g, q + i, none⟩ = some (.string (xs.getD i ByteArray.empty)))
    (hx : -9223372036854775808 ≤ x ∧ x ≤ 9223372036854775807) :
    Calls Tryd.prog 4 #[.slice a xs.length cap, .string rest, .agg #[.int .i64 x, .int .i64 y]] w fun e w' => e = .returned (.bool true) ∧ Below w.heap.size w w' := by
  obtain ⟨bs, hbs⟩ : ∃ bs, bodies xs = bs := ⟨_, rfl⟩
  have hblen := bodies_len xs
  have hble := bodies_le xs
  have hbget := bodies_get xs
  rw [hbs] at hblen hble hbget
  obtain ⟨n, hn⟩ : ∃ n, xs.length = n := ⟨_, rfl⟩
  rw [hn] at hblen hL hml ⊢
  have hb8 : bs.length ≤ 8 := by omega
  have hbn : bs.length ≤ n := by omega
  have HB : Hid (bs.length = min 8 n) := hblen
  clear hblen
  have hml' : n ≤ 9223372036854775807 := hml
  refine (callsIn_wide (n := 9)).1 ?_
  refine callsIn_of_wp_marks Tryd.func4 rfl trivial ?_ rfl
  simp only [Tryd.ntmps4, List.size_toArray, List.length_cons, List.length_nil, Nat.reduceAdd, Nat.reduceSub, Array.replicate_succ, Array.replicate_zero, List.push_toArray, List.append_toArray, List.nil_append, List.cons_append]
  obtain ⟨Qf, hQf⟩ : ∃ Qf, bodyPostM Fence.wide 9 Tryd.prog Tryd.f4 (fun e w' => e = .returned (.bool true) ∧ Below w.heap.size w w') = Qf := ⟨_, rfl⟩
  rw [hQf]
  have HQF : Hid (bodyPostM Fence.wide 9 Tryd.prog Tryd.f4 (fun e w' => e = .returned (.bool true) ∧ Below w.heap.size w w') = Qf) := hQf
  clear hQf
  refine wpIn_mono (Q := calm Qf) ?_ (fun e a w h => calm_out h)
  refine wpIn_wide.2 ?_
  go_wp2_with fail
  obtain ⟨W1, hW1⟩ : ∃ W1, (w.alloc (.cells #[.int .i64 x, .int .i64 y] 28)).alloc (.cells #[.bool false] 4) = W1 := ⟨_, rfl⟩
  have hR1 : Boxed W1 (w.heap.size + 1) 4 (.bool false) := by
    rw [← hW1]
    have h := Boxed.new (w.alloc (.cells #[.int .i64 x, .int .i64 y] 28)) 4 (.bool false)
    rwa [World.size_alloc] at h
  have hXY : W1.heap[w.heap.size]? = some (.cells #[.int .i64 x, .int .i64 y] 28 (0, 0)) := by
    rw [← hW1, Below.heap_alloc _ _ _ (by simp)]; exact heap_new _ _
  have hB1 : Below w.heap.size w W1 := by rw [← hW1]; exact ((Below.refl _ w).alloc (Nat.le_refl _) _).alloc (by simp) _
  have hs1 : W1.heap.size = w.heap.size + 2 := by rw [← hW1]; simp
  rw [hW1]
  clear hW1
  have cx := cell_of_row W1 w.heap.size 0 _ 28 _ hXY
  have cy := cell_of_row W1 w.heap.size 1 _ 28 _ hXY
  simp only [List.getElem?_toArray, List.getElem?_cons_succ, List.getElem?_cons_zero] at cx cy
  go_quiet (fail)
  obtain ⟨W2, hW2⟩ : ∃ W2, W1.drewN nq = W2 := ⟨_, rfl⟩
  have hR2 : Boxed W2 (w.heap.size + 1) 4 (.bool false) := by rw [← hW2]; exact hR1
  have hB2 : Below w.heap.size w W2 := by rw [← hW2]; exact below_drewN hB1 nq
  have hs2 : W2.heap.size = w.heap.size + 2 := by rw [← hW2]; exact hs1
  have hGW2 := hG.later rfl hB2
  rw [hW2]
  clear hW2 hR1 hB1 hXY cx cy hs1
  go_upto_block 0 with fail
  go_cut [9, 10, 11, 12] from 24 to 68 (fun c9 _ _ _ wx => c9 = .string ⟨(cat bs).toArray⟩ ∧ Below W2.heap.size W2 wx)
  case first =>
    go_wp2_with fail
    go_loopw [9, 10] (fun c9 i wr => (∃ k : Nat, k ≤ bs.length ∧ i = .int .i64 k ∧ c9 = .string ⟨(cat (bs.take k)).toArray⟩) ∧ Below W2.heap.size W2 wr) (fun _ i _ => 8 - (intOf i).toNat)
    case atStart => exact ⟨⟨0, Nat.zero_le _, rfl, rfl⟩, Below.refl _ _⟩
    case round =>
      obtain ⟨⟨k, hk, rfl, rfl⟩, hb⟩ := hrel
      by_cases hlt : k < bs.length
      · have hkn : k < n := by omega
        have hk8 : k < 8 := by omega
        have q1 : (k : Int) < (n : Int) := by omega
        have q2 : (k : Int) < 8 := by omega
        obtain ⟨g, q, rfl, hcell⟩ := hL (by omega)
        have hc0 := hcell k hkn
        have hgl := World.block_lt_of_cell? _ _ hc0
        have hc1 := (hB2.cell (p := ⟨g, q + k, none⟩) hgl).trans hc0
        have hc := (hb.cell (p := ⟨g, q + k, none⟩) (show g < W2.heap.size by have : g < w.heap.size := hgl; omega)).trans hc1
        obtain ⟨x1, hx1⟩ : ∃ x, xs.getD k ByteArray.empty = x := ⟨_, rfl⟩
        have hbk := hbget k hlt
        rw [hx1] at hc hbk
        have hcat := cat_take_succ bs k hlt
        rw [hbk] at hcat
        have HCAT : Hid (cat (bs.take (k + 1)) = cat (bs.take k) ++ frameL (x1.data.toList.take 300)) := hcat
        have hle1 := cat_le 300 (bs.take k) (fun b hb => hble b (List.mem_of_mem_take hb))
        rw [List.length_take] at hle1
        have hle2 : (cat (bs.take k)).length ≤ 2496 := by
          have : min k bs.length ≤ 8 := by omega
          exact Nat.le_trans hle1 (Nat.mul_le_mul_left _ this)
        clear hx1 hbk hcat hle1 hc0 hc1 hcell hL hbget
        obtain ⟨C, hC⟩ : ∃ C, cat (bs.take k) = C := ⟨_, rfl⟩
        rw [hC] at HCAT hle2 ⊢
        clear hC
        go_wp2_with fail
        refine (few_any x1 wr).mono ?_
        rintro e w' ⟨t1, rfl, ht, hts, rfl⟩
        have HT : Hid (t1.data.toList = x1.data.toList.take 300) := ht
        have hGwr := hGW2.later rfl hb
        go_wp2_with fail
        refine (make_any t1 (by omega) _ hGwr).mono ?_
        rintro e wm ⟨rfl, hbm⟩
        have hG2 := hGwr.later rfl hbm
        obtain ⟨F1, hF1⟩ : ∃ F1 : ByteArray, (⟨(frameL t1.data.toList).toArray⟩ : ByteArray) = F1 := ⟨_, rfl⟩
        obtain ⟨H1, hH1⟩ : ∃ H1 : ByteArray, (⟨(headL t1.data.toList).toArray⟩ : ByteArray) = H1 := ⟨_, rfl⟩
        have hFH : F1.extract 0 12 = H1 := by rw [← hF1, ← hH1]; exact head12 _
        have HF : Hid ((⟨(frameL t1.data.toList).toArray⟩ : ByteArray) = F1) := hF1
        have HH : Hid ((⟨(headL t1.data.toList).toArray⟩ : ByteArray) = H1) := hH1
        have hFs : F1.size = 12 + t1.size := by
          rw [← hF1]
          show (frameL t1.data.toList).toArray.size = _
          rw [List.size_toArray, frameL_len, slen]
        have hF12 : (12 : Int) ≤ (F1.size : Int) := by omega
        have HFS : Hid (F1.size = 12 + t1.size) := hFs
        rw [hF1]
        have hcm := (hbm.cell (p := ⟨g, q + k, none⟩) (World.block_lt_of_cell? _ _ hc)).trans hc
        have hc2 := hcm
        have hg2 := World.block_lt_of_cell? _ _ hcm
        clear hF1 hH1 ht hFs hc
        go_upto_region 7 with fail
        go_cut [65] from 24 to 68 (fun c65 wx => c65 = .bool false ∧ Below wm.heap.size wm wx)
        case first =>
          refine quiet_class (C := fun W => Below wm.heap.size wm W) (by kernel_rfl) (by kernel_rfl) (below_drewN (Below.refl _ _) 1) ?_
          go_big_quiet_step (fail)
          refine BigFrame.wpQuiet_want (by rfl) (fun K hK => q_pure (v := .bool false) (fun W => ?_) (hK _ ?_))
          · go_simp
          simp only [Act.put, List.setIfInBounds_toArray, List.set_cons_zero, List.set_cons_succ]
          go_big_quiet_step (fail)
          go_big_quiet_step (fail)
          go_big_quiet_step (fail)
          go_big_quiet_step (fail)
          refine BigFrame.wpQuiet_want (by rfl) (fun K hK => q_pure (v := .pointer (some ⟨g, q + k, none⟩)) (fun W => ?_) (hK _ ?_))
          · go_simp
          simp only [Act.put, List.setIfInBounds_toArray, List.set_cons_zero, List.set_cons_succ]
          refine BigFrame.wpQuiet_want (by rfl) (fun K hK => q_at (v := .string x1) (fun W hW => ?_) (hK _ ?_))
          · have hcW := (hW.cell (p := ⟨g, q + k, none⟩) hg2).trans hc2
            go_simp
          simp only [Act.put, List.setIfInBounds_toArray, List.set_cons_zero, List.set_cons_succ]
          refine BigFrame.wpQuiet_want (by rfl) (fun K hK => q_call (v := .string t1) (f := 9) (args := #[.string x1]) (fun W => ?_) (fun W hW => ?_) (hK _ ?_))
          · go_simp
          · refine (few_any x1 W).mono ?_
            rintro e w' ⟨t2, rfl, ht2, _, rfl⟩
            exact ⟨by rw [t_same ht2 HT.out], hW⟩
          simp only [Act.put, List.setIfInBounds_toArray, List.set_cons_zero, List.set_cons_succ]
          refine BigFrame.wpQuiet_want (by rfl) (fun K hK => q_call (v := .string F1) (f := 12) (args := #[.string t1]) (fun W => ?_) (fun W hW => ?_) (hK _ ?_))
          · go_simp
          · refine (rframe_any t1 (by omega) W).mono ?_
            rintro e w' ⟨rfl, hb'⟩
            exact ⟨by rw [HF.out], hW.trans (hb'.mono hW.size)⟩
          simp only [Act.put, List.setIfInBounds_toArray, List.set_cons_zero, List.set_cons_succ]
          refine BigFrame.wpQuiet_want (by rfl) (fun K hK => q_pure (v := .bool false) (fun W => ?_) (hK _ ?_))
          · go_simp
          simp only [Act.put, List.setIfInBounds_toArray, List.set_cons_zero, List.set_cons_succ]
          refine BigFrame.wpQuiet_want (by rfl) (fun K hK => q_pure (v := .bool false) (fun W => ?_) (hK _ ?_))
          · go_simp
          simp only [Act.put, List.setIfInBounds_toArray, List.set_cons_zero, List.set_cons_succ]
          go_big_quiet_step (fail)
          go_big_quiet_step (fail)
          refine BigFrame.wpQuiet_want (by rfl) (fun K hK => q_pure (v := .string H1) (fun W => ?_) (hK _ ?_))
          · go_simp
          simp only [Act.put, List.setIfInBounds_toArray, List.set_cons_zero, List.set_cons_succ]
          go_big_quiet_step (fail)
          go_big_quiet_step (fail)
          refine BigFrame.wpQuiet_want (by rfl) (fun K hK => q_pure (v := .pointer (some ⟨g, q + k, none⟩)) (fun W => ?_) (hK _ ?_))
          · go_simp
          simp only [Act.put, List.setIfInBounds_toArray, List.set_cons_zero, List.set_cons_succ]
          refine BigFrame.wpQuiet_want (by rfl) (fun K hK => q_at (v := .string x1) (fun W hW => ?_) (hK _ ?_))
          · have hcW := (hW.cell (p := ⟨g, q + k, none⟩) hg2).trans hc2
            go_simp
          simp only [Act.put, List.setIfInBounds_toArray, List.set_cons_zero, List.set_cons_succ]
          refine BigFrame.wpQuiet_want (by rfl) (fun K hK => q_call (v := .string t1) (f := 9) (args := #[.string x1]) (fun W => ?_) (fun W hW => ?_) (hK _ ?_))
          · go_simp
          · refine (few_any x1 W).mono ?_
            rintro e w' ⟨t2, rfl, ht2, _, rfl⟩
            exact ⟨by rw [t_same ht2 HT.out], hW⟩
          simp only [Act.put, List.setIfInBounds_toArray, List.set_cons_zero, List.set_cons_succ]
          refine BigFrame.wpQuiet_want (by rfl) (fun K hK => q_call (v := .string H1) (f := 13) (args := #[.string t1]) (fun W => ?_) (fun W hW => ?_) (hK _ ?_))
          · go_simp
          · refine (head_any t1 (by omega) W (hG2.later rfl hW)).mono ?_
            rintro e w' ⟨rfl, hb'⟩
            exact ⟨by rw [HH.out], hW.trans (hb'.mono hW.size)⟩
          simp only [Act.put, List.setIfInBounds_toArray, List.set_cons_zero, List.set_cons_succ]
          refine BigFrame.wpQuiet_want (by rfl) (fun K hK => q_pure (v := .bool false) (fun W => ?_) (hK _ ?_))
          · go_simp
          simp only [Act.put, List.setIfInBounds_toArray, List.set_cons_zero, List.set_cons_succ]
          refine BigFrame.wpQuiet_want (by rfl) (fun K hK => q_pure (v := .bool false) (fun W => ?_) (hK _ ?_))
          · go_simp
          simp only [Act.put, List.setIfInBounds_toArray, List.set_cons_zero, List.set_cons_succ]
          refine wpQuiet_nil ?_
          intro w2 hb2
          go_wp2_with fail
          go_meet
          case rel => exact ⟨rfl, hb2⟩
        case rest =>
          obtain ⟨rfl, hb2⟩ := hcut
          have hcl : C.length + F1.size ≤ 9223372036854775807 := by have := HFS.out; omega
          go_wp2
          go_roundw
          case rel =>
            refine ⟨⟨k + 1, by omega, by go_num, ?_⟩, hb.trans ((hbm.mono hb.size).trans (hb2.mono (Nat.le_trans hb.size hbm.size)))⟩
            rw [HCAT.out, ← HT.out, ← HF.out, str_add]
          case measure => simp [intOf]; omega
      · obtain rfl : k = bs.length := by omega
        rw [List.take_length]
        have hmin := HB.out
        by_cases h8 : n ≤ 8
        · have q1 : ¬ (bs.length : Int) < (n : Int) := by omega
          clear hmin
          go_wp2_with fail
          go_meet
          case rel => exact ⟨rfl, hb⟩
        · have q1 : (bs.length : Int) < (n : Int) := by omega
          have q2 : ¬ (bs.length : Int) < 8 := by omega
          clear hmin
          go_wp2_with fail
          go_meet
          case rel => exact ⟨rfl, hb⟩
  case rest =>
    obtain ⟨rfl, hb⟩ := hcut
    clear hL hbget
    have hcle : (cat bs).length ≤ 2496 := Nat.le_trans (cat_le 300 bs hble) (Nat.mul_le_mul_left _ hb8)
    obtain ⟨C, hC⟩ : ∃ C, cat bs = C := ⟨_, rfl⟩
    rw [hC] at hcle ⊢
    clear hC
    go_wp2_with fail
    refine (few_any rest wc).mono ?_
    rintro e w' ⟨t1, rfl, ht, hts, hw'⟩
    obtain rfl : wc = w' := hw'.symm
    obtain ⟨W3, rfl⟩ : ∃ W3, W3 = wc := ⟨_, rfl⟩
    have hcl : C.length + t1.size ≤ 9223372036854775807 := by omega
    obtain ⟨S0, hS0⟩ : ∃ S0 : ByteArray, (⟨C.toArray⟩ : ByteArray) ++ t1 = S0 := ⟨_, rfl⟩
    have hS0s : S0.size ≤ 4096 := by rw [← hS0, ByteArray.size_append]; show C.toArray.size + _ ≤ _; rw [List.size_toArray]; omega
    go_upto_region 11 with fail
    go_cut [80] from 73 to 96 (fun c80 wx => c80 = .bool (decide (0 ≤ x ∧ x < (S0.size : Int))) ∧ wx = W3)
    case first =>
      by_cases hx0 : 0 ≤ x
      · by_cases hxk : x < (S0.size : Int)
        · go_wp2_with fail
          go_meet
          case rel => exact ⟨by rw [decide_eq_true ⟨hx0, hxk⟩], rfl⟩
        · go_wp2_with fail
          go_meet
          case rel => exact ⟨by rw [decide_eq_false (by omega)], rfl⟩
      · go_wp2_with fail
        go_meet
        case rel => exact ⟨by rw [decide_eq_false (by omega)], rfl⟩
    case rest =>
    obtain ⟨rfl, hwc⟩ := hcut
    obtain rfl : W3 = wc := hwc.symm
    go_upto_if 80 with fail
    go_cut [9] from 73 to 96 (fun c9 wx => (∃ S : ByteArray, S.size ≤ 4096 ∧ c9 = .string S) ∧ Below W3.heap.size W3 wx)
    case first =>
      by_cases hcond : 0 ≤ x ∧ x < (S0.size : Int)
      · rw [decide_eq_true hcond]
        obtain ⟨k, rfl⟩ : ∃ k : Nat, x = k := ⟨x.toNat, by omega⟩
        have hxk : k < S0.size := by omega
        have k1 : (k : Int) < (S0.size : Int) := by omega
        obtain ⟨b, hxor⟩ := xor_byte (S0[k].toNat : Int) (y % 256)
        have hcv : ∀ m, (convert 32 9 (.slice (some ⟨W3.heap.size, 0, none⟩) 1 1)).run Tryd.prog ((W3.alloc (.cells #[.int .u8 (b.toNat : Int)] 5)).drewN m) = .ok (.string ⟨#[b]⟩) ((W3.alloc (.cells #[.int .u8 (b.toNat : Int)] 5)).drewN m) := fun m => conv_row (W := (W3.alloc (.cells (bcs [b]) 5)).drewN m) (g := W3.heap.size) (l := [b]) (t := 5) (fr := (0, 0)) (heap_new W3 _) 1 1 rfl
        have hcv' : (convert 32 9 (.slice (some ⟨W3.heap.size, 0, none⟩) 1 1)).run Tryd.prog (W3.alloc (.cells #[.int .u8 (b.toNat : Int)] 5)).drew = .ok (.string ⟨#[b]⟩) (W3.alloc (.cells #[.int .u8 (b.toNat : Int)] 5)).drew := hcv 1
        clear hcv
        have k0 : (0 : Int) ≤ (k : Int) := by omega
        have k2 : (k : Int) ≤ (S0.size : Int) := by omega
        have k3 : (k : Int) + 1 ≤ (S0.size : Int) := by omega
        have k4 : IntKind.i64.wrap ((k : Int) + 1) = (k : Int) + 1 := by rw [IntKind.wrap_i64]; omega
        have k5 : (0 : Int) ≤ (k : Int) + 1 := by omega
        have k6 : ((k : Int) + 1).toNat = k + 1 := by omega
        have HFS : Hid ((S0.extract 0 k ++ (⟨#[b]⟩ : ByteArray) ++ S0.extract (k + 1) S0.size).size = S0.size) := flip_size S0 k b hxk
        go_wp2_with fail
        go_region_with (fail)
        simp only [List.getElem_toArray, List.getElem_cons_succ, List.getElem_cons_zero, Act.put, List.setIfInBounds_toArray, List.set_cons_zero, List.set_cons_succ]
        obtain ⟨S1, hS1⟩ : ∃ S1, S0.extract 0 k ++ (⟨#[b]⟩ : ByteArray) ++ S0.extract (k + 1) S0.size = S1 := ⟨_, rfl⟩
        obtain ⟨W5, hW5⟩ : ∃ W5, (W3.alloc (.cells #[.int .u8 (b.toNat : Int)] 5)).drew = W5 := ⟨_, rfl⟩
        have hS1s : S1.size ≤ 4096 := by rw [← hS1, HFS.out]; exact hS0s
        have hB5 : Below W3.heap.size W3 W5 := by rw [← hW5]; exact ((Below.refl _ _).alloc (Nat.le_refl _) _).drew
        rw [hS1, hW5]
        clear hS1 hW5 hcv' hxor k0 k1 k2 k3 k4 k5 k6 HFS hxk
        go_wp2_with fail
        go_meet
        case rel => exact ⟨⟨S1, hS1s, rfl⟩, hB5⟩
      · rw [decide_eq_false hcond]
        go_wp2_with fail
        go_meet
        case rel => exact ⟨⟨S0, hS0s, rfl⟩, Below.refl _ _⟩
    case rest =>
    obtain ⟨⟨S, hS, rfl⟩, hb3⟩ := hcut
    obtain ⟨W4, rfl⟩ : ∃ W4, W4 = wc := ⟨_, rfl⟩
    have hbW4 : Below W2.heap.size W2 W4 := hb.trans (hb3.mono hb.size)
    have hG4 := hGW2.later rfl hbW4
    clear hb hb3
    have HRS := rscan_any S (by omega) W4
    obtain ⟨L, hLL⟩ : ∃ L, scanL S.data.toList 0 = L := ⟨_, rfl⟩
    rw [hLL] at HRS
    have hLlen : L.length ≤ 4096 := by
      rw [← hLL]
      have h := scanF_len S.data.toList (S.data.toList.length - 0) 0
      unfold scanL
      rw [slen] at h ⊢
      omega
    go_wp2_with fail
    refine HRS.mono ?_
    clear HRS
    rintro e Wa ⟨vw, rfl, hrw, hbA⟩
    obtain ⟨aw, capw, rfl, hfw⟩ := ownsRow_form hrw
    have hGa := hG4.later rfl hbA
    have hGa2 : GL (Wa.alloc (.cells #[.slice aw L.length capw] 33)) := hGa.later rfl ((Below.refl _ _).alloc (Nat.le_refl _) _)
    have HSC := scan_any S (by omega) _ hGa2
    rw [hLL] at HSC
    go_wp2_with fail
    refine HSC.mono ?_
    clear HSC
    rintro e Wb ⟨vg, rfl, hrg, hbB⟩
    obtain ⟨ag, capg, rfl, hfg⟩ := ownsRow_form hrg
    have hGb := hGa2.later rfl hbB
    obtain ⟨Wc, hWc⟩ : ∃ Wc, Wb.alloc (.cells #[.slice ag L.length capg] 36) = Wc := ⟨_, rfl⟩
    have hsA := hbA.size
    have hsB : Wa.heap.size + 1 ≤ Wb.heap.size := by have h := hbB.size; simpa using h
    have hBC : Below Wb.heap.size Wb Wc := by rw [← hWc]; exact (Below.refl _ _).alloc (Nat.le_refl _) _
    have bxw : Boxed Wc Wa.heap.size 33 (.slice aw L.length capw) := (hBC.block _ (by omega)).trans ((hbB.block _ (by simp)).trans (heap_new _ _))
    have bxg : Boxed Wc Wb.heap.size 36 (.slice ag L.length capg) := by rw [← hWc]; exact heap_new _ _
    have hbC : Below W2.heap.size W2 Wc := by
      have h1 : Below W4.heap.size W4 (Wa.alloc (.cells #[.slice aw L.length capw] 33)) := hbA.alloc hsA _
      have h2 : Below W4.heap.size W4 Wb := h1.trans (hbB.mono (by simp; omega))
      have h3 : Below W4.heap.size W4 Wc := h2.trans (hBC.mono (by omega))
      exact hbW4.trans (h3.mono hbW4.size)
    have hGc : GL Wc := hGW2.later rfl hbC
    have hcw : ∀ j u, (cellsOf L)[j]? = some u → ∃ g, aw = some ⟨g, 0, none⟩ ∧ Wc.cell? ⟨g, j, none⟩ = some u ∧ g < Wa.heap.size := by
      intro j u hu
      have hj := (List.getElem?_eq_some_iff.1 hu).1
      rw [cellsOf_len] at hj
      obtain ⟨g, rfl, _, hc⟩ := hfw (by omega)
      have hg := World.block_lt_of_cell? _ _ (hc j u hu)
      exact ⟨g, rfl, (hBC.cell (p := ⟨g, j, none⟩) (Nat.lt_of_lt_of_le hg (by omega))).trans ((hbB.cell (p := ⟨g, j, none⟩) (by simp; exact Nat.lt_succ_of_lt hg)).trans ((((Below.refl _ Wa).alloc (Nat.le_refl _) _).cell (p := ⟨g, j, none⟩) hg).trans (hc j u hu))), hg⟩
    have hcg : ∀ j u, (cellsOf L)[j]? = some u → ∃ g, ag = some ⟨g, 0, none⟩ ∧ Wc.cell? ⟨g, j, none⟩ = some u ∧ g < Wb.heap.size := by
      intro j u hu
      have hj := (List.getElem?_eq_some_iff.1 hu).1
      rw [cellsOf_len] at hj
      obtain ⟨g, rfl, _, hc⟩ := hfg (by omega)
      have hg := World.block_lt_of_cell? _ _ (hc j u hu)
      exact ⟨g, rfl, (hBC.cell (p := ⟨g, j, none⟩) hg).trans (hc j u hu), hg⟩
    have hszC : Wc.heap.size = Wb.heap.size + 1 := by rw [← hWc]; simp
    have hs4 := hbW4.size
    go_wp2_with fail
    clear hWc hfw hfg hrw hrg hbB hbA hGb hGa2 hGa hBC hG4
    refine (awake_any Wc hGc).mono ?_
    rintro e Wd ⟨rfl, hbD⟩
    have dw : Boxed Wd Wa.heap.size 33 (.slice aw L.length capw) := (hbD.block _ (by omega)).trans bxw
    have dg : Boxed Wd Wb.heap.size 36 (.slice ag L.length capg) := (hbD.block _ (by omega)).trans bxg
    have ew := dw.cell
    have eg := dg.cell
    go_wp2_with fail
    refine (all_any S _).mono ?_
    rintro e w' ⟨rfl, rfl⟩
    go_wp2_with fail
    obtain ⟨W0, hW0⟩ : ∃ W0, (Wd.alloc (.cells #[.int .i64 0] 3)).alloc (.cells #[.string S] 9) = W0 := ⟨_, rfl⟩
    have hsD := hbD.size
    have hs0 : W0.heap.size = Wd.heap.size + 2 := by rw [← hW0]; simp
    have hB0 : Below Wd.heap.size Wd W0 := by rw [← hW0]; exact ((Below.refl _ _).alloc (Nat.le_refl _) _).alloc (by simp) _
    have bI : Boxed W0 Wd.heap.size 3 (.int .i64 0) := by rw [← hW0]; exact (Boxed.new Wd 3 (.int .i64 0)).alloc _
    have bS : Boxed W0 (Wd.heap.size + 1) 9 (.string S) := by
      rw [← hW0]
      have h := Boxed.new (Wd.alloc (.cells #[.int .i64 0] 3)) 9 (.string S)
      rwa [World.size_alloc] at h
    have bW : Boxed W0 Wa.heap.size 33 (.slice aw L.length capw) := (hB0.block _ (by omega)).trans dw
    have bG : Boxed W0 Wb.heap.size 36 (.slice ag L.length capg) := (hB0.block _ (by omega)).trans dg
    have hbC0 : Below Wc.heap.size Wc W0 := hbD.trans (hB0.mono hsD)
    have hG0 : GL W0 := hGc.later rfl hbC0
    have hw0 : 0 < w.heap.size := Nat.lt_of_le_of_lt (Nat.zero_le _) (World.block_lt_of_cell? _ _ (hG 0 (by omega)))
    have hbW0 : Below W2.heap.size W2 W0 := hbC.trans (hbC0.mono (by have := hbC.size; omega))
    rw [hW0]
    clear hW0 dw dg ew eg bxw bxg
    refine (wpIn_wide (n := 9)).1 ?_
    refine range_law (w := W0) (gf := 22) (lb := #[.pointer (some ⟨Wd.heap.size + 1, 0, none⟩)]) rfl (enters_of Tryd.func22 (by kernel_rfl) rfl) (fun x : Fr => #[frA x]) (fun _ => rfl)
      (fun W => ∃ n1, ScJ W0 Wd.heap.size n1 L W) ?call ?done
    case call =>
      intro Rd hRd hround W1 hR1 hb1 hs1
      refine (itr_any S (by omega) (9 - 1) (W0.heap.size + 1) (Wd.heap.size + 1) W1 (fun n1 pre A => Rd A ∧ W1.heap.size ≤ n1 ∧ ScJ W0 Wd.heap.size n1 pre A) (by omega) ?kc ?kjg ?kg ?kj ?kj0 ?ky).mono ?kfin
      case kc => exact (hb1.cell (p := ⟨Wd.heap.size + 1, 0, none⟩) (by simp; omega)).trans bS.cell
      case kjg => rintro n1 pre A ⟨_, _, h⟩; exact h.gl hG0 (by omega)
      case kg => exact hG0.later rfl hb1
      case kj =>
        rintro n1 pre A B ⟨hR, hn, h⟩ hB hk
        exact ⟨hRd A B hR (fun k h1 h2 => hB.block k (by omega)), hn, h.go (by omega) (by omega) hB⟩
      case kj0 =>
        intro n1 B hB hn1 hn
        have hB' : Below W0.heap.size W0 B := hb1.trans (hB.mono (by omega))
        exact ⟨hRd W1 B hR1 (fun k h1 h2 => hB.block k (by omega)), hn1, ⟨(hB'.block _ (by omega)).trans bI, fun k hk _ => hB'.block k hk, ⟨hB'.os, hB'.tape, hB'.output⟩, hB'.size, hn⟩⟩
      case ky =>
        rintro n1 pre x1 A ⟨hR, hn1, hI⟩ hpfx
        refine YieldAt.mono (hround x1 A (fun B => ScJ W0 Wd.heap.size n1 (pre ++ [x1]) B ∧ B.heap[Wd.heap.size + 1]? = A.heap[Wd.heap.size + 1]? ∧ ∀ k, W1.heap.size ≤ k → k < n1 → B.heap[k]? = A.heap[k]?) hR ?rd) ?_
        case rd =>
          clear hround hRd
          unfold frA
          obtain ⟨tl, htl⟩ := hpfx
          rw [hLL, List.append_assoc] at htl
          have hmid := cellsOf_mid pre tl x1
          rw [show pre ++ x1 :: tl = L from htl] at hmid
          obtain ⟨gw, rfl, cw0, hgw⟩ := hcw _ _ hmid.1
          obtain ⟨gw1, e1, cw1, _⟩ := hcw _ _ hmid.2.1
          obtain rfl : gw = gw1 := by simpa using e1
          obtain ⟨gw2, e2, cw2, _⟩ := hcw _ _ hmid.2.2
          obtain rfl : gw = gw2 := by simpa using e2
          obtain ⟨gg, rfl, cg0, hgg⟩ := hcg _ _ hmid.1
          obtain ⟨gg1, e3, cg1, _⟩ := hcg _ _ hmid.2.1
          obtain rfl : gg = gg1 := by simpa using e3
          obtain ⟨gg2, e4, cg2, _⟩ := hcg _ _ hmid.2.2
          obtain rfl : gg = gg2 := by simpa using e4
          have hplen : pre.length < L.length := by rw [← htl]; simp
          have hsA := hI.size
          have hAn := hI.n1
          obtain ⟨m, hm⟩ : ∃ m, W0.heap.size + 1 = m := ⟨_, rfl⟩
          rw [hm]
          obtain ⟨D, hD⟩ : ∃ D, W0.heap.size = D := ⟨_, rfl⟩
          rw [hD]
          gi_wp2
          refine ⟨fun k h1 h2 => Below.heap_alloc _ _ _ (by omega), fun o => ?_⟩
          obtain ⟨We, hWe⟩ : ∃ We, (A.alloc (.cells #[.int .i64 (x1.at_ : Nat), .string ⟨x1.body.toArray⟩, .bool x1.good] 43)).putObj m o = We := ⟨_, rfl⟩
          have hWk : ∀ k, k < A.heap.size → k ≠ m → We.heap[k]? = A.heap[k]? := by
            intro k h1 h2; rw [← hWe]; exact (World.putObj_heap_other h2).trans (Below.heap_alloc _ _ _ h1)
          have hWs : We.heap.size = A.heap.size + 1 := by rw [← hWe]; simp [World.putObj]
          have hF : We.heap[A.heap.size]? = some (.cells #[.int .i64 (x1.at_ : Nat), .string ⟨x1.body.toArray⟩, .bool x1.good] 43 (0, 0)) := by
            rw [← hWe]; exact (World.putObj_heap_other (by omega)).trans (heap_new _ _)
          have hBA : Below D A We := ⟨by rw [← hWe]; rfl, by rw [← hWe]; rfl, by rw [← hWe]; rfl, by omega, fun k hk => hWk k (by omega) (by omega)⟩
          have hIe : ScJ W0 Wd.heap.size n1 pre We := hI.go (by omega) (by omega) hBA
          rw [hWe]
          clear hWe
          have fI := hIe.box.cell
          have zI := hIe.box.frozen
          have fW : We.cell? ⟨Wa.heap.size, 0, none⟩ = _ := (heap_cell (hIe.keep _ (by omega) (by omega))).trans bW.cell
          have fG : We.cell? ⟨Wb.heap.size, 0, none⟩ = _ := (heap_cell (hIe.keep _ (by omega) (by omega))).trans bG.cell
          have rF := row3 hF
          have kc : ∀ g j v, g < Wc.heap.size → Wc.cell? ⟨g, j, none⟩ = some v → We.cell? ⟨g, j, none⟩ = some v := fun g j v hg hv =>
            (heap_cell (hIe.keep g (by omega) (by omega))).trans ((hbC0.cell (p := ⟨g, j, none⟩) hg).trans hv)
          have dw0 := kc _ _ _ (by omega) cw0
          have dw1 := kc _ _ _ (by omega) cw1
          have dw2 := kc _ _ _ (by omega) cw2
          have dg0 := kc _ _ _ (by omega) cg0
          have dg1 := kc _ _ _ (by omega) cg1
          have dg2 := kc _ _ _ (by omega) cg2
          obtain ⟨p, hp⟩ : ∃ p, pre.length = p := ⟨_, rfl⟩
          rw [hp] at fI dw0 dw1 dw2 dg0 dg1 dg2 hplen
          have p1 : ¬ ((L.length : Nat) : Int) ≤ (p : Int) := by omega
          have p2 : (p : Int) < ((L.length : Nat) : Int) := by omega
          have HPP : Hid (pre.length = p) := hp
          obtain ⟨F, hFF⟩ : ∃ F, A.heap.size = F := ⟨_, rfl⟩
          rw [hFF] at rF ⊢
          obtain ⟨tb, htb⟩ : ∃ tb : ByteArray, (⟨x1.body.toArray⟩ : ByteArray) = tb := ⟨_, rfl⟩
          rw [htb] at rF dw1 dg1 ⊢
          clear kc cw0 cw1 cw2 cg0 cg1 cg2 hmid htl hF hp e1 e2 e3 e4 hcw hcg hgw hgg bW bG bS bI htb
          gi_wp2_with fail
          refine quiet_round (by kernel_rfl) (by kernel_rfl) (by kernel_rfl) ?_
          repeat (quiet_step_in (fail))
          refine wpQuietIn_nil ?_
          intro W5 hw5
          obtain ⟨nq2, rfl⟩ := hw5
          have fI2 : (We.drewN nq2).cell? ⟨Wd.heap.size, 0, none⟩ = some (.int .i64 (p : Nat)) := fI
          have zI2 : (We.drewN nq2).frozen? ⟨Wd.heap.size, 0, none⟩ = false := zI
          have pw : IntKind.i64.wrap ((p : Int) + 1) = (p : Int) + 1 := by rw [IntKind.wrap_i64]; omega
          gi_wp2
          have hlen1 : ((pre ++ [x1]).length : Int) = (p : Int) + 1 := by rw [List.length_append, HPP.out]; simp
          have hset : ∀ k, k ≠ Wd.heap.size → ((We.drewN nq2).setCell ⟨Wd.heap.size, 0, none⟩ (.int .i64 ((p : Int) + 1))).heap[k]? = We.heap[k]? := fun k hk => heap_setCell_other (We.drewN nq2) _ _ _ hk
          have hI6 : ScJ W0 Wd.heap.size n1 (pre ++ [x1]) ((We.drewN nq2).setCell ⟨Wd.heap.size, 0, none⟩ (.int .i64 ((p : Int) + 1))) := by
            refine ⟨?_, fun k hk hne => (hset k hne).trans (hIe.keep k hk hne), hIe.env, ?_, ?_⟩
            · have hb0 : Boxed (We.drewN nq2) Wd.heap.size 3 (.int .i64 (pre.length : Nat)) := hIe.box
              rw [hlen1]
              exact hb0.set _
            · have := hIe.size
              simpa [World.setCell] using this
            · have := hIe.n1
              simpa [World.setCell] using this
          refine ⟨fun k h1 h2 => hset k (by omega), fun o' _ => ⟨hI6.put m (by omega) (by omega) o', ?_, ?_⟩⟩
          · exact (World.putObj_heap_other (by omega)).trans ((hset _ (by omega)).trans (hWk _ (by omega) (by omega)))
          · intro k h1 h2
            exact (World.putObj_heap_other (by omega)).trans ((hset k (by omega)).trans (hWk k (by omega) (by omega)))
        rintro e B ⟨rfl, hRB, hIB, h1, h2⟩
        exact ⟨rfl, ⟨hRB, hn1, hIB⟩, h1, h2⟩
      case kfin =>
        rintro e W' ⟨hv, n1, hR, hn, hI⟩
        rw [hLL] at hI
        exact ⟨hv, hR, n1, hI⟩
    case done =>
      rintro W o ⟨n1, hI⟩ hK
      have hI2 := hI.put (W0.heap.size + 1) (by omega) (by omega) o
      obtain ⟨W6, hW6⟩ : ∃ W6, W.putObj (W0.heap.size + 1) o = W6 := ⟨_, rfl⟩
      have hK6 : W6.heap[W0.heap.size]? = some (.deferred (some [])) := by rw [← hW6]; exact (World.putObj_heap_other (by omega)).trans hK
      rw [hW6] at hI2 ⊢
      clear hW6 hI hK
      have fI := hI2.box.cell
      have fW : W6.cell? ⟨Wa.heap.size, 0, none⟩ = _ := (heap_cell (hI2.keep _ (by omega) (by omega))).trans bW.cell
      have hR6 : Boxed W6 (w.heap.size + 1) 4 (.bool false) := (hI2.keep _ (by omega) (by omega)).trans ((hbW0.block _ (by omega)).trans hR2)
      have fR := hR6.cell
      have zR := hR6.frozen
      gi_wp2
      go_wp2
      have hK7 : (W6.setCell ⟨w.heap.size + 1, 0, none⟩ (.bool true)).heap[W0.heap.size]? = some (.deferred (some [])) := (Below.heap_setCell W6 ⟨w.heap.size + 1, 0, none⟩ (.bool true) W0.heap.size (by show W0.heap.size ≠ w.heap.size + 1; omega)).trans hK6
      have hR7 : Boxed ((W6.setCell ⟨w.heap.size + 1, 0, none⟩ (.bool true)).putObj W0.heap.size (.deferred none)) (w.heap.size + 1) 4 (.bool true) := (World.putObj_heap_other (by omega)).trans (hR6.set _)
      have fR7 := hR7.cell
      have hbF : Below w.heap.size w ((W6.setCell ⟨w.heap.size + 1, 0, none⟩ (.bool true)).putObj W0.heap.size (.deferred none)) := by
        have h1 : Below w.heap.size w W6 := by
          refine hB2.trans ((hbW0.mono (by omega)).trans ⟨hI2.env.1, hI2.env.2.1, hI2.env.2.2, hI2.size, fun k hk => hI2.keep k (by omega) (by omega)⟩)
        exact (h1.setCell (p := ⟨w.heap.size + 1, 0, none⟩) (Nat.le_succ _) _).trans ⟨rfl, rfl, rfl, by simp [World.putObj], fun k hk => World.putObj_heap_other (by omega)⟩
      show Qf .ret _ _
      rw [← HQF.out]
      refine ⟨by simp, .inl ⟨_, _, rfl, run_takeDeferred hK7, ?_⟩⟩
      refine ⟨.bool true, ?_, rfl, hbF⟩
      simp [results, Tryd.results4, go_sem, fR7]
end Go.Proofs.YthhjaploldhdaaaDoor
