/- Parse: any text. -/
import Derived.Test.YtcniebkehekliaaGreatDoorWfx
namespace Go.Proofs.YtcniebkehekliaaGreatDoor
open Go.RowKit Go.Shelf
attribute [local go_sem] Oper.semAt_some fw0 fw1 fw2
theorem setCell_same {w : World} {z : Nat} {cs : Array Value} {t : TypeId} {fr : Nat × Nat} {i : Nat} {v : Value} (h : w.heap[z]? = some (.cells cs t fr)) (hv : cs[i]? = some v) : w.setCell ⟨z, i, none⟩ v = w := by
  have hi : i < cs.size := (Array.getElem?_eq_some_iff.1 hv).1
  have e : cs.setIfInBounds i v = cs := by
    apply Array.ext
    · simp
    · intro j h1 h2
      rw [Array.getElem_setIfInBounds]
      split
      · next e =>
        subst e
        rw [Array.getElem?_eq_getElem hi] at hv
        injection hv with hv
        exact hv.symm
      · rfl
  have e2 : (w.setCell ⟨z, i, none⟩ v).heap = w.heap := by
    unfold World.setCell
    apply Array.ext
    · simp
    · intro j h1 h2
      rw [Array.getElem_modify]
      split
      · next e3 =>
        subst e3
        rw [Array.getElem?_eq_getElem h2] at h
        injection h with h
        rw [h]
        simp [e]
      · rfl
  have e3 : w.setCell ⟨z, i, none⟩ v = { w with heap := (w.setCell ⟨z, i, none⟩ v).heap } := rfl
  rw [e3, e2]
theorem setCells_same (g : Nat) (t : TypeId) (fr : Nat × Nat) : ∀ (vs : List Value) (o : Nat) (w : World) (cs : Array Value), w.heap[g]? = some (.cells cs t fr) → (∀ j u, vs[j]? = some u → cs[o + j]? = some u) → w.setCells g o vs = w
  | [], _, _, _, _, _ => rfl
  | v :: r, o, w, cs, h, hv => by
    have e := setCell_same (i := o) h (hv 0 v rfl)
    simp only [World.setCells]
    rw [e]
    exact setCells_same g t fr r (o + 1) w cs h (fun j u hu => by
      have := hv (j + 1) u (by simpa using hu)
      rw [show o + 1 + j = o + (j + 1) by omega]
      exact this)
theorem q_pure {P : Program} {o : Oper} {a : Act} {C : World → Prop} {K : Act → Prop} {v : Value} (hrun : ∀ W, (execOp a.eval o).run P W = .ok (.value v) W) (hk : K (a.put o.dst v)) : o.quiet P a C K :=
  ⟨v, fun W _ => by unfold Oper.quietAt; rw [hrun W]; exact ⟨rfl, rfl⟩, hk⟩
theorem q_at {P : Program} {o : Oper} {a : Act} {C : World → Prop} {K : Act → Prop} {v : Value} (hrun : ∀ W, C W → (execOp a.eval o).run P W = .ok (.value v) W) (hk : K (a.put o.dst v)) : o.quiet P a C K :=
  ⟨v, fun W hW => by unfold Oper.quietAt; rw [hrun W hW]; exact ⟨rfl, rfl⟩, hk⟩
/- A store of what stands there already. -/
theorem q_stay {P : Program} {o : Oper} {a : Act} {C : World → Prop} {K : Act → Prop} (ty : TypeId) (x y : Operand) (ho : o.op = .store ty x y) {z : Nat} {cs : Array Value} {t : TypeId} (hx : a.eval x = .pointer (some ⟨z, 0, none⟩)) (hy : a.eval y = .agg cs) (h0 : ∀ W, C W → W.heap[z]? = some (.cells cs t (0, 0))) (hi : (P.info? ty).map (·.size) = some cs.size) (h1 : cs.all (·.oneCell') = true) (hk : K (a.put o.dst undef)) : o.quiet P a C K :=
  ⟨undef, fun W hW => by
    have h := h0 W hW
    have e : W.setCells z 0 cs.toList = W := setCells_same z t (0, 0) cs.toList 0 W cs h (fun j u hu => by rw [Nat.zero_add]; simpa using hu)
    have r := run_storeVar_mid (P := P) W z 0 ty cs (there_of_row h (Nat.le_refl _)) hi h1
    rw [e] at r
    unfold Oper.quietAt execOp
    simp only [ho, hx, hy, Instr.storeAt, Instr.sureAddr, Sem.run_bind, Sem.run_pure, Result.andThen_ok, r]
    exact ⟨rfl, rfl⟩, hk⟩
theorem results_row_tmp2 {P : Program} {fn : Func} {p q r : Tmp} {ty : TypeId} (h : fn.results = #[.cell p ty, .tmp q, .tmp r]) (tmps : Array Value) (w : World) (g : Nat) (t : TypeId) (cs : Array Value) (fr : Nat × Nat) (d : TypeDesc)
    (hp : tmps.getD p undef = .pointer (some ⟨g, 0, none⟩)) (hg : w.heap[g]? = some (.cells cs t fr))
    (hu : P.underlying ty = some d) (hd : (match d with | .struct _ | .array _ _ => true | _ => false) = true) (hi : (P.info? ty).map (·.size) = some cs.size) :
    (results fn tmps).run P w = .ok (.tuple #[.agg cs, tmps.getD q undef, tmps.getD r undef]) w := by
  have hp' : tmps[p]?.getD undef = .pointer (some ⟨g, 0, none⟩) := by simpa using hp
  simp [results, h, hp', asAddr, run_loadVar_row w g t ty cs fr d hg hu hd hi]
/- What Parse says of a text: the statement; or the place and the error. -/
def ps0 : PS := ⟨0, 0, 0, 0, 0⟩
def endP (ws : List Wd) (s : PS) : PS := if (wAt ws s.at').k = 0 then s else failP ws s 120
def parP (l : List UInt8) : PS := endP (wordsR l).1 (stmF (wordsR l).1 ps0).2
def parF (l : List UInt8) : Sm × Nat × Nat :=
  if (wordsR l).2.2 ≠ 0 then (Sm.zero, (wordsR l).2.1, (wordsR l).2.2)
  else if (parP l).er ≠ 0 then (Sm.zero, (parP l).pl, (parP l).er)
  else ((stmF (wordsR l).1 ps0).1, 0, 0)
def GivesP (w : World) (X : Sm × Nat × Nat) (r : Ending) (w' : World) : Prop :=
  ∃ R, r = .returned (.tuple #[.agg (stA R), .int .i64 (X.2.1 : Int), .int .i64 (X.2.2 : Int)]) ∧ Sx w' (fun k => w.heap.size ≤ k) R X.1 ∧ Below w.heap.size w w'
def zeroR : SR := (⟨0, ⟨#[]⟩, ⟨#[]⟩, ⟨0, ⟨#[]⟩, 0, false, 0, ⟨#[]⟩, none, 0, 0, none, 0, 0⟩, .slice none 0 0, .slice none 0 0, ⟨0, ⟨#[]⟩, 0, false, 0, ⟨#[]⟩, none, 0, 0, none, 0, 0⟩, .slice none 0 0, false, false, ⟨#[]⟩, false, 0⟩ : SR)
def zero31 : Array Value := #[.int .i64 0, .string ⟨#[]⟩, .string ⟨#[]⟩, .int .i64 0, .string ⟨#[]⟩, .int .i64 0, .bool false, .int .i64 0, .string ⟨#[]⟩, .slice none 0 0, .slice none 0 0, .slice none 0 0, .slice none 0 0, .slice none 0 0, .slice none 0 0, .int .i64 0, .string ⟨#[]⟩, .int .i64 0, .bool false, .int .i64 0, .string ⟨#[]⟩, .slice none 0 0, .slice none 0 0, .slice none 0 0, .slice none 0 0, .slice none 0 0, .bool false, .bool false, .string ⟨#[]⟩, .bool false, .int .i64 (0)]
theorem zeroR_st : stA zeroR = zero31 := rfl
set_option maxRecDepth 100000 in
set_option maxHeartbeats 8000000 in
theorem parse_bad (t : ByteArray) (ht : t.size ≤ 10000) (w : World) (he : Ev w) (hb : (wordsR t.data.toList).2.2 ≠ 0) :
    Calls Tryz.prog 17 #[.string t] w (GivesP w (parF t.data.toList)) := by
  unfold parF
  rw [if_pos hb]
  obtain ⟨w1, hw1⟩ : ∃ w1, w.alloc (.cells #[.int .i64 0, .string ⟨#[]⟩, .string ⟨#[]⟩, .int .i64 0, .string ⟨#[]⟩, .int .i64 0, .bool false, .int .i64 0, .string ⟨#[]⟩, .slice none 0 0, .slice none 0 0, .slice none 0 0, .slice none 0 0, .slice none 0 0, .slice none 0 0, .int .i64 0, .string ⟨#[]⟩, .int .i64 0, .bool false, .int .i64 0, .string ⟨#[]⟩, .slice none 0 0, .slice none 0 0, .slice none 0 0, .slice none 0 0, .slice none 0 0, .bool false, .bool false, .string ⟨#[]⟩, .bool false, .int .i64 (0)] 30) = w1 := ⟨_, rfl⟩
  have hb1 : Below w.heap.size w w1 := by rw [← hw1]; exact (Below.refl _ w).alloc (Nat.le_refl _) _
  have hs1 : w1.heap.size = w.heap.size + 1 := by rw [← hw1]; simp
  have rz1 : w1.heap[w.heap.size]? = some (.cells zero31 30 (0, 0)) := by rw [← hw1]; exact heap_alloc_new _ _
  have kw := words_any t ht w1 (he.later hb1).2
  obtain ⟨X, hX⟩ : ∃ X, wordsR t.data.toList = X := ⟨_, rfl⟩
  rw [hX] at kw hb ⊢
  have hb' : ¬ (X.2.2 : Int) = 0 := by omega
  have HH : Hid (Below w.heap.size w w1) := hb1
  clear hX hb1 hb he
  go_enter Tryz.func17, Tryz.ntmps17
  go_wp2_with fail
  refine kw.mono ?_
  rintro q w2 ⟨p, c, rfl, hsl, hb2⟩
  have rz2 := (hb2.block _ (by omega)).trans rz1
  have H2 : Hid (Below w1.heap.size w1 w2 ∧ w2.heap[w.heap.size]? = some (.cells zero31 30 (0, 0))) := ⟨hb2, rz2⟩
  clear kw hsl hb2 rz1 rz2 hw1
  go_wp2_with (first | (refine wpList_put rfl 30 (.tmp 2) (.tmp 18) rfl rfl rfl rfl H2.out.2 rfl info30 (by simp [Value.oneCell']) ?_) | fail)
  exact bodyPost_ret (results_row_tmp2 Tryz.results17 _ _ w.heap.size 30 _ (0, 0) _ rfl (put_row _ H2.out.2 rfl) Tryz.underlying30 rfl info30) rfl ⟨zeroR, rfl, zero_sx _ _ 0, put_below (HH.out.trans (H2.out.1.mono HH.out.size)) _ (Nat.le_refl _) _⟩
set_option maxRecDepth 100000 in
set_option maxHeartbeats 8000000 in
theorem parse_no (t : ByteArray) (ht : t.size ≤ 10000) (w : World) (he : Ev w) (hb : (wordsR t.data.toList).2.2 = 0) (hq : ¬ (parP t.data.toList).er = 0) :
    Calls Tryz.prog 17 #[.string t] w (GivesP w (parF t.data.toList)) := by
  unfold parF
  rw [if_neg (fun h => h hb), if_pos hq]
  obtain ⟨hz, hl, ha, h0, hmany⟩ := words_ok hb
  obtain ⟨w1, hw1⟩ : ∃ w1, w.alloc (.cells #[.int .i64 0, .string ⟨#[]⟩, .string ⟨#[]⟩, .int .i64 0, .string ⟨#[]⟩, .int .i64 0, .bool false, .int .i64 0, .string ⟨#[]⟩, .slice none 0 0, .slice none 0 0, .slice none 0 0, .slice none 0 0, .slice none 0 0, .slice none 0 0, .int .i64 0, .string ⟨#[]⟩, .int .i64 0, .bool false, .int .i64 0, .string ⟨#[]⟩, .slice none 0 0, .slice none 0 0, .slice none 0 0, .slice none 0 0, .slice none 0 0, .bool false, .bool false, .string ⟨#[]⟩, .bool false, .int .i64 (0)] 30) = w1 := ⟨_, rfl⟩
  have hb1 : Below w.heap.size w w1 := by rw [← hw1]; exact (Below.refl _ w).alloc (Nat.le_refl _) _
  have hs1 : w1.heap.size = w.heap.size + 1 := by rw [← hw1]; simp
  have rz1 : w1.heap[w.heap.size]? = some (.cells zero31 30 (0, 0)) := by rw [← hw1]; exact heap_alloc_new _ _
  have hw2 := he.lt
  have kw := words_any t ht w1 (he.later hb1).2
  unfold parP at hq ⊢
  obtain ⟨X, hX⟩ : ∃ X, wordsR t.data.toList = X := ⟨_, rfl⟩
  rw [hX] at kw hb hz hl ha h0 hmany hq ⊢
  have hb' : (X.2.2 : Int) = 0 := by omega
  have HH : Hid (Below w.heap.size w w1 ∧ Ev w) := ⟨hb1, he⟩
  rw [hb'] at kw
  clear hX hb1 hb he hb'
  obtain ⟨Y, hY⟩ : ∃ Y, stmF X.1 ps0 = Y := ⟨_, rfl⟩
  rw [hY] at hq ⊢
  have g0 : Gd X.1 ps0 := ⟨Or.inl (by decide), fun h => absurd rfl h, Nat.le_refl _⟩
  go_enter Tryz.func17, Tryz.ntmps17
  go_wp2_with fail
  refine kw.mono ?_
  rintro q w2 ⟨p, c, rfl, hsl, hb2⟩
  have s2 := hb2.size
  have rz2 := (hb2.block _ (by omega)).trans rz1
  obtain ⟨w3, hw3⟩ : ∃ w3, w2.alloc (.cells #[.slice p X.1.length c, .int .i64 0, .int .i64 0, .int .i64 0, .int .i64 0, .int .i64 0] 87) = w3 := ⟨_, rfl⟩
  have hb3 : Below w2.heap.size w2 w3 := by rw [← hw3]; exact (Below.refl _ w2).alloc (Nat.le_refl _) _
  have hs3 : w3.heap.size = w2.heap.size + 1 := by rw [← hw3]; simp
  have rp3 : w3.heap[w2.heap.size]? = some (.cells #[.slice p X.1.length c, .int .i64 0, .int .i64 0, .int .i64 0, .int .i64 0, .int .i64 0] 87 (0, 0)) := by rw [← hw3]; exact heap_alloc_new _ _
  have rz3 := (hb3.block _ (by omega)).trans rz2
  have P3 : Ps w3 w2.heap.size p c X.1 ps0 := ⟨rp3, hsl.later hb3, h0, by omega⟩
  have hE3 : Ev w3 := ((HH.out.2.later HH.out.1).later hb2).later hb3
  have ks := statement_any P3 hz hl g0 ha hE3 (by omega)
  rw [hY] at ks
  have H3 : Hid (Below w1.heap.size w1 w3) := hb2.trans (hb3.mono hb2.size)
  have hold := P3.old
  clear kw hsl hb2 rz1 rz2 hb3 rp3 P3 hE3 hw1
  go_wp2_with fail
  refine ks.mono ?_
  rintro q w4 ⟨R, rfl, hx4, hP4, hO4, hG4⟩
  have s4 := hO4.size
  have rz4 := (hO4.block _ (by omega) (by omega)).trans rz3
  obtain ⟨w5, hw5⟩ : ∃ w5, put (w4.alloc (.cells #[.int .i64 0, .string ⟨#[]⟩, .string ⟨#[]⟩, .int .i64 0, .string ⟨#[]⟩, .int .i64 0, .bool false, .int .i64 0, .string ⟨#[]⟩, .slice none 0 0, .slice none 0 0, .slice none 0 0, .slice none 0 0, .slice none 0 0, .slice none 0 0, .int .i64 0, .string ⟨#[]⟩, .int .i64 0, .bool false, .int .i64 0, .string ⟨#[]⟩, .slice none 0 0, .slice none 0 0, .slice none 0 0, .slice none 0 0, .slice none 0 0, .bool false, .bool false, .string ⟨#[]⟩, .bool false, .int .i64 (0)] 30)) w4.heap.size (stA R) = w5 := ⟨_, rfl⟩
  have ra : (w4.alloc (.cells #[.int .i64 0, .string ⟨#[]⟩, .string ⟨#[]⟩, .int .i64 0, .string ⟨#[]⟩, .int .i64 0, .bool false, .int .i64 0, .string ⟨#[]⟩, .slice none 0 0, .slice none 0 0, .slice none 0 0, .slice none 0 0, .slice none 0 0, .slice none 0 0, .int .i64 0, .string ⟨#[]⟩, .int .i64 0, .bool false, .int .i64 0, .string ⟨#[]⟩, .slice none 0 0, .slice none 0 0, .slice none 0 0, .slice none 0 0, .slice none 0 0, .bool false, .bool false, .string ⟨#[]⟩, .bool false, .int .i64 (0)] 30)).heap[w4.heap.size]? = some (.cells zero31 30 (0, 0)) := heap_alloc_new _ _
  have hb5 : Below w4.heap.size w4 w5 := by rw [← hw5]; exact put_below ((Below.refl _ w4).alloc (Nat.le_refl _) _) _ (Nat.le_refl _) _
  have hs5 : w5.heap.size = w4.heap.size + 1 := by rw [← hw5, put_size]; simp
  have rx5 : w5.heap[w4.heap.size]? = some (.cells (stA R) 30 (0, 0)) := by rw [← hw5]; exact put_row _ ra rfl
  have rz5 := (hb5.block _ (by omega)).trans rz4
  have ke := end_any (hP4.later hb5)
  have e0 : (if (wAt X.1 Y.2.at').k = 0 then Y.2 else failP X.1 Y.2 120) = endP X.1 Y.2 := rfl
  rw [e0] at ke
  clear e0
  obtain ⟨Z, hZ⟩ : ∃ Z, endP X.1 Y.2 = Z := ⟨_, rfl⟩
  have HZ : Hid (endP X.1 Y.2 = Z) := hZ
  rw [hZ] at ke hq
  have H5 : Hid (Sx w5 (fun k => w3.heap.size ≤ k) R Y.1 ∧ Onl w2.heap.size w3 w5 ∧ (w4.alloc (.cells #[.int .i64 0, .string ⟨#[]⟩, .string ⟨#[]⟩, .int .i64 0, .string ⟨#[]⟩, .int .i64 0, .bool false, .int .i64 0, .string ⟨#[]⟩, .slice none 0 0, .slice none 0 0, .slice none 0 0, .slice none 0 0, .slice none 0 0, .slice none 0 0, .int .i64 0, .string ⟨#[]⟩, .int .i64 0, .bool false, .int .i64 0, .string ⟨#[]⟩, .slice none 0 0, .slice none 0 0, .slice none 0 0, .slice none 0 0, .slice none 0 0, .bool false, .bool false, .string ⟨#[]⟩, .bool false, .int .i64 (0)] 30)).heap[w4.heap.size]? = some (.cells zero31 30 (0, 0)) ∧ (stA R).all (·.oneCell') = true ∧ w5.heap[w4.heap.size]? = some (.cells (stA R) 30 (0, 0))) := ⟨hx4.since (Since.below hb5), hO4.trans (Onl.of hb5), ra, hx4.ones, rx5⟩
  obtain ⟨A, hA⟩ : ∃ A, stA R = A := ⟨_, rfl⟩
  have HA : Hid (stA R = A) := hA
  have h31 : Hid (A.size = 31) := by
    have h : A.size = 31 := by rw [← hA]; rfl
    exact h
  rw [hA] at H5 hw5 ⊢
  clear ks hx4 hP4 hO4 ra hb5 rx5 rz4 rz3 hZ hA hw3
  go_wp2_with (first | (refine wpList_put rfl 30 (.tmp 9) (.tmp 25) rfl rfl rfl rfl H5.out.2.2.1 h31.out (info30.trans (congrArg some h31.out.symm)) H5.out.2.2.2.1 ?_; rw [hw5]) | fail)
  refine ke.mono ?_
  rintro q w6 ⟨rfl, hP6, hO6⟩
  have s6 := hO6.size
  have rz6 := (hO6.block _ (by omega) (by omega)).trans rz5
  have rx6 := (hO6.block _ (by omega) (by omega)).trans H5.out.2.2.2.2
  have rp6 := hP6.row
  unfold psRow at rp6
  have c4 := cell_of_row w6 _ 4 _ _ _ rp6
  have c5 := cell_of_row w6 _ 5 _ _ _ rp6
  have hO : Hid (Below w.heap.size w w6) := by
    have h1 := HH.out.1
    have h2 := H3.out
    have h3 := H5.out.2.1.trans hO6
    have : Below w.heap.size w w6 := ⟨h3.os.trans (h2.os.trans h1.os), h3.tape.trans (h2.tape.trans h1.tape), h3.output.trans (h2.output.trans h1.output), by omega, fun k hk => (h3.block k (by omega) (by omega)).trans ((h2.block k (by omega)).trans (h1.block k hk))⟩
    exact this
  have H6 : Hid (Sx w6 (fun k => w3.heap.size ≤ k) R Y.1 ∧ w6.heap[w4.heap.size]? = some (.cells A 30 (0, 0)) ∧ w6.heap[w.heap.size]? = some (.cells zero31 30 (0, 0)) ∧ w6.heap[w2.heap.size]? = some (.cells #[.slice p X.1.length c, .int .i64 (Z.at' : Int), .int .i64 (Z.ex : Int), .int .i64 (Z.ne : Int), .int .i64 (Z.er : Int), .int .i64 (Z.pl : Int)] 87 (0, 0))) := ⟨H5.out.1.since (Since.onl hO6 (by omega)), rx6, rz6, rp6⟩
  have hq' : ¬ ((Z.er : Nat) : Int) = 0 := by omega
  clear ke hP6 hO6 rz5 rz6 rx6 rp6 hw5 hq
  go_wp2_with fail
  refine quiet_class (C := fun W => Below w6.heap.size w6 W) (by kernel_rfl) (by kernel_rfl) ((Below.refl _ w6).trans ⟨rfl, rfl, rfl, Nat.le_refl _, fun _ _ => rfl⟩) ?_
  have lz := lt_of_row H6.out.2.2.1
  have lp := lt_of_row H6.out.2.2.2
  refine BigFrame.wpQuiet_want (by rfl) (fun Kq hKq => q_pure (v := .agg zero31) (fun W => ?_) (hKq _ ?_))
  · go_simp
    rfl
  simp only [Act.put, List.setIfInBounds_toArray, List.set_cons_zero, List.set_cons_succ]
  go_big_quiet_step (fail)
  refine BigFrame.wpQuiet_want (by rfl) (fun Kq hKq => q_pure (v := .pointer (some ⟨w2.heap.size, 0, none⟩)) (fun W => ?_) (hKq _ ?_))
  · go_simp
  simp only [Act.put, List.setIfInBounds_toArray, List.set_cons_zero, List.set_cons_succ]
  refine BigFrame.wpQuiet_want (by rfl) (fun Kq hKq => q_pure (v := .pointer (some ⟨w2.heap.size, 5, none⟩)) (fun W => ?_) (hKq _ ?_))
  · go_simp
  simp only [Act.put, List.setIfInBounds_toArray, List.set_cons_zero, List.set_cons_succ]
  refine BigFrame.wpQuiet_want (by rfl) (fun Kq hKq => q_at (v := .int .i64 (Z.pl : Int)) (fun W hW => ?_) (hKq _ ?_))
  · have hc : W.cell? ⟨w2.heap.size, 5, none⟩ = some (.int .i64 (Z.pl : Int)) := (cell_later hW lp).trans (cell_of_row w6 _ 5 _ _ _ H6.out.2.2.2)
    go_simp
  simp only [Act.put, List.setIfInBounds_toArray, List.set_cons_zero, List.set_cons_succ]
  go_big_quiet_step (fail)
  refine BigFrame.wpQuiet_want (by rfl) (fun Kq hKq => q_pure (v := .pointer (some ⟨w2.heap.size, 0, none⟩)) (fun W => ?_) (hKq _ ?_))
  · go_simp
  simp only [Act.put, List.setIfInBounds_toArray, List.set_cons_zero, List.set_cons_succ]
  refine BigFrame.wpQuiet_want (by rfl) (fun Kq hKq => q_pure (v := .pointer (some ⟨w2.heap.size, 4, none⟩)) (fun W => ?_) (hKq _ ?_))
  · go_simp
  simp only [Act.put, List.setIfInBounds_toArray, List.set_cons_zero, List.set_cons_succ]
  refine BigFrame.wpQuiet_want (by rfl) (fun Kq hKq => q_at (v := .int .i64 (Z.er : Int)) (fun W hW => ?_) (hKq _ ?_))
  · have hc : W.cell? ⟨w2.heap.size, 4, none⟩ = some (.int .i64 (Z.er : Int)) := (cell_later hW lp).trans (cell_of_row w6 _ 4 _ _ _ H6.out.2.2.2)
    go_simp
  simp only [Act.put, List.setIfInBounds_toArray, List.set_cons_zero, List.set_cons_succ]
  refine BigFrame.wpQuiet_want (by rfl) (fun Kq hKq => q_stay 30 (.tmp 2) (.tmp 33) rfl rfl rfl (fun W hW => (hW.block _ lz).trans H6.out.2.2.1) info30 (by simp [zero31, Value.oneCell']) (hKq _ ?_))
  simp only [Act.put]
  go_big_quiet_step (fail)
  go_big_quiet_step (fail)
  refine wpQuiet_nil ?_
  intro W hW
  go_wp2
  rw [HZ.out]
  exact bodyPost_ret (results_row_tmp2 Tryz.results17 _ _ w.heap.size 30 _ (0, 0) _ rfl ((hW.block _ lz).trans H6.out.2.2.1) Tryz.underlying30 rfl info30) rfl ⟨zeroR, rfl, zero_sx _ _ 0, hO.out.trans (hW.mono hO.out.size)⟩
set_option maxRecDepth 100000 in
set_option maxHeartbeats 8000000 in
theorem parse_yes (t : ByteArray) (ht : t.size ≤ 10000) (w : World) (he : Ev w) (hb : (wordsR t.data.toList).2.2 = 0) (hq : (parP t.data.toList).er = 0) :
    Calls Tryz.prog 17 #[.string t] w (GivesP w (parF t.data.toList)) := by
  unfold parF
  rw [if_neg (fun h => h hb), if_neg (fun h => h hq)]
  obtain ⟨hz, hl, ha, h0, hmany⟩ := words_ok hb
  obtain ⟨w1, hw1⟩ : ∃ w1, w.alloc (.cells #[.int .i64 0, .string ⟨#[]⟩, .string ⟨#[]⟩, .int .i64 0, .string ⟨#[]⟩, .int .i64 0, .bool false, .int .i64 0, .string ⟨#[]⟩, .slice none 0 0, .slice none 0 0, .slice none 0 0, .slice none 0 0, .slice none 0 0, .slice none 0 0, .int .i64 0, .string ⟨#[]⟩, .int .i64 0, .bool false, .int .i64 0, .string ⟨#[]⟩, .slice none 0 0, .slice none 0 0, .slice none 0 0, .slice none 0 0, .slice none 0 0, .bool false, .bool false, .string ⟨#[]⟩, .bool false, .int .i64 (0)] 30) = w1 := ⟨_, rfl⟩
  have hb1 : Below w.heap.size w w1 := by rw [← hw1]; exact (Below.refl _ w).alloc (Nat.le_refl _) _
  have hs1 : w1.heap.size = w.heap.size + 1 := by rw [← hw1]; simp
  have rz1 : w1.heap[w.heap.size]? = some (.cells zero31 30 (0, 0)) := by rw [← hw1]; exact heap_alloc_new _ _
  have hw2 := he.lt
  have kw := words_any t ht w1 (he.later hb1).2
  unfold parP at hq
  obtain ⟨X, hX⟩ : ∃ X, wordsR t.data.toList = X := ⟨_, rfl⟩
  rw [hX] at kw hb hz hl ha h0 hmany hq ⊢
  have hb' : (X.2.2 : Int) = 0 := by omega
  have HH : Hid (Below w.heap.size w w1 ∧ Ev w) := ⟨hb1, he⟩
  rw [hb'] at kw
  clear hX hb1 hb he hb'
  obtain ⟨Y, hY⟩ : ∃ Y, stmF X.1 ps0 = Y := ⟨_, rfl⟩
  rw [hY] at hq ⊢
  have g0 : Gd X.1 ps0 := ⟨Or.inl (by decide), fun h => absurd rfl h, Nat.le_refl _⟩
  go_enter Tryz.func17, Tryz.ntmps17
  go_wp2_with fail
  refine kw.mono ?_
  rintro q w2 ⟨p, c, rfl, hsl, hb2⟩
  have s2 := hb2.size
  have rz2 := (hb2.block _ (by omega)).trans rz1
  obtain ⟨w3, hw3⟩ : ∃ w3, w2.alloc (.cells #[.slice p X.1.length c, .int .i64 0, .int .i64 0, .int .i64 0, .int .i64 0, .int .i64 0] 87) = w3 := ⟨_, rfl⟩
  have hb3 : Below w2.heap.size w2 w3 := by rw [← hw3]; exact (Below.refl _ w2).alloc (Nat.le_refl _) _
  have hs3 : w3.heap.size = w2.heap.size + 1 := by rw [← hw3]; simp
  have rp3 : w3.heap[w2.heap.size]? = some (.cells #[.slice p X.1.length c, .int .i64 0, .int .i64 0, .int .i64 0, .int .i64 0, .int .i64 0] 87 (0, 0)) := by rw [← hw3]; exact heap_alloc_new _ _
  have rz3 := (hb3.block _ (by omega)).trans rz2
  have P3 : Ps w3 w2.heap.size p c X.1 ps0 := ⟨rp3, hsl.later hb3, h0, by omega⟩
  have hE3 : Ev w3 := ((HH.out.2.later HH.out.1).later hb2).later hb3
  have ks := statement_any P3 hz hl g0 ha hE3 (by omega)
  rw [hY] at ks
  have H3 : Hid (Below w1.heap.size w1 w3) := hb2.trans (hb3.mono hb2.size)
  have hold := P3.old
  clear kw hsl hb2 rz1 rz2 hb3 rp3 P3 hE3 hw1
  go_wp2_with fail
  refine ks.mono ?_
  rintro q w4 ⟨R, rfl, hx4, hP4, hO4, hG4⟩
  have s4 := hO4.size
  have rz4 := (hO4.block _ (by omega) (by omega)).trans rz3
  obtain ⟨w5, hw5⟩ : ∃ w5, put (w4.alloc (.cells #[.int .i64 0, .string ⟨#[]⟩, .string ⟨#[]⟩, .int .i64 0, .string ⟨#[]⟩, .int .i64 0, .bool false, .int .i64 0, .string ⟨#[]⟩, .slice none 0 0, .slice none 0 0, .slice none 0 0, .slice none 0 0, .slice none 0 0, .slice none 0 0, .int .i64 0, .string ⟨#[]⟩, .int .i64 0, .bool false, .int .i64 0, .string ⟨#[]⟩, .slice none 0 0, .slice none 0 0, .slice none 0 0, .slice none 0 0, .slice none 0 0, .bool false, .bool false, .string ⟨#[]⟩, .bool false, .int .i64 (0)] 30)) w4.heap.size (stA R) = w5 := ⟨_, rfl⟩
  have ra : (w4.alloc (.cells #[.int .i64 0, .string ⟨#[]⟩, .string ⟨#[]⟩, .int .i64 0, .string ⟨#[]⟩, .int .i64 0, .bool false, .int .i64 0, .string ⟨#[]⟩, .slice none 0 0, .slice none 0 0, .slice none 0 0, .slice none 0 0, .slice none 0 0, .slice none 0 0, .int .i64 0, .string ⟨#[]⟩, .int .i64 0, .bool false, .int .i64 0, .string ⟨#[]⟩, .slice none 0 0, .slice none 0 0, .slice none 0 0, .slice none 0 0, .slice none 0 0, .bool false, .bool false, .string ⟨#[]⟩, .bool false, .int .i64 (0)] 30)).heap[w4.heap.size]? = some (.cells zero31 30 (0, 0)) := heap_alloc_new _ _
  have hb5 : Below w4.heap.size w4 w5 := by rw [← hw5]; exact put_below ((Below.refl _ w4).alloc (Nat.le_refl _) _) _ (Nat.le_refl _) _
  have hs5 : w5.heap.size = w4.heap.size + 1 := by rw [← hw5, put_size]; simp
  have rx5 : w5.heap[w4.heap.size]? = some (.cells (stA R) 30 (0, 0)) := by rw [← hw5]; exact put_row _ ra rfl
  have rz5 := (hb5.block _ (by omega)).trans rz4
  have ke := end_any (hP4.later hb5)
  have e0 : (if (wAt X.1 Y.2.at').k = 0 then Y.2 else failP X.1 Y.2 120) = endP X.1 Y.2 := rfl
  rw [e0] at ke
  clear e0
  obtain ⟨Z, hZ⟩ : ∃ Z, endP X.1 Y.2 = Z := ⟨_, rfl⟩
  have HZ : Hid (endP X.1 Y.2 = Z) := hZ
  rw [hZ] at ke hq
  have H5 : Hid (Sx w5 (fun k => w3.heap.size ≤ k) R Y.1 ∧ Onl w2.heap.size w3 w5 ∧ (w4.alloc (.cells #[.int .i64 0, .string ⟨#[]⟩, .string ⟨#[]⟩, .int .i64 0, .string ⟨#[]⟩, .int .i64 0, .bool false, .int .i64 0, .string ⟨#[]⟩, .slice none 0 0, .slice none 0 0, .slice none 0 0, .slice none 0 0, .slice none 0 0, .slice none 0 0, .int .i64 0, .string ⟨#[]⟩, .int .i64 0, .bool false, .int .i64 0, .string ⟨#[]⟩, .slice none 0 0, .slice none 0 0, .slice none 0 0, .slice none 0 0, .slice none 0 0, .bool false, .bool false, .string ⟨#[]⟩, .bool false, .int .i64 (0)] 30)).heap[w4.heap.size]? = some (.cells zero31 30 (0, 0)) ∧ (stA R).all (·.oneCell') = true ∧ w5.heap[w4.heap.size]? = some (.cells (stA R) 30 (0, 0))) := ⟨hx4.since (Since.below hb5), hO4.trans (Onl.of hb5), ra, hx4.ones, rx5⟩
  obtain ⟨A, hA⟩ : ∃ A, stA R = A := ⟨_, rfl⟩
  have HA : Hid (stA R = A) := hA
  have h31 : Hid (A.size = 31) := by
    have h : A.size = 31 := by rw [← hA]; rfl
    exact h
  rw [hA] at H5 hw5 ⊢
  clear ks hx4 hP4 hO4 ra hb5 rx5 rz4 rz3 hZ hA hw3
  go_wp2_with (first | (refine wpList_put rfl 30 (.tmp 9) (.tmp 25) rfl rfl rfl rfl H5.out.2.2.1 h31.out (info30.trans (congrArg some h31.out.symm)) H5.out.2.2.2.1 ?_; rw [hw5]) | fail)
  refine ke.mono ?_
  rintro q w6 ⟨rfl, hP6, hO6⟩
  have s6 := hO6.size
  have rz6 := (hO6.block _ (by omega) (by omega)).trans rz5
  have rx6 := (hO6.block _ (by omega) (by omega)).trans H5.out.2.2.2.2
  have rp6 := hP6.row
  unfold psRow at rp6
  have c4 := cell_of_row w6 _ 4 _ _ _ rp6
  have c5 := cell_of_row w6 _ 5 _ _ _ rp6
  have hO : Hid (Below w.heap.size w w6) := by
    have h1 := HH.out.1
    have h2 := H3.out
    have h3 := H5.out.2.1.trans hO6
    have : Below w.heap.size w w6 := ⟨h3.os.trans (h2.os.trans h1.os), h3.tape.trans (h2.tape.trans h1.tape), h3.output.trans (h2.output.trans h1.output), by omega, fun k hk => (h3.block k (by omega) (by omega)).trans ((h2.block k (by omega)).trans (h1.block k hk))⟩
    exact this
  have H6 : Hid (Sx w6 (fun k => w3.heap.size ≤ k) R Y.1 ∧ w6.heap[w4.heap.size]? = some (.cells A 30 (0, 0)) ∧ w6.heap[w.heap.size]? = some (.cells zero31 30 (0, 0)) ∧ w6.heap[w2.heap.size]? = some (.cells #[.slice p X.1.length c, .int .i64 (Z.at' : Int), .int .i64 (Z.ex : Int), .int .i64 (Z.ne : Int), .int .i64 (Z.er : Int), .int .i64 (Z.pl : Int)] 87 (0, 0))) := ⟨H5.out.1.since (Since.onl hO6 (by omega)), rx6, rz6, rp6⟩
  have hq' : ((Z.er : Nat) : Int) = 0 := by omega
  clear ke hP6 hO6 rz5 rz6 rx6 rp6 hw5 hq
  go_wp2_with (first | (refine wpList_get rfl 30 (.tmp 9) rfl rfl H6.out.2.1 Tryz.underlying30 rfl (info30.trans (congrArg some h31.out.symm)) ?_; simp only [Act.put, List.setIfInBounds_toArray, List.set_cons_zero, List.set_cons_succ]) | (refine wpList_put rfl 30 (.tmp 2) (.tmp 42) rfl rfl rfl rfl H6.out.2.2.1 h31.out (info30.trans (congrArg some h31.out.symm)) H5.out.2.2.2.1 ?_) | fail)
  refine bodyPost_ret (results_row_tmp2 Tryz.results17 _ _ w.heap.size 30 _ (0, 0) _ rfl (put_row A H6.out.2.2.1 h31.out) Tryz.underlying30 rfl (info30.trans (congrArg some h31.out.symm))) rfl ⟨R, by rw [HA.out]; rfl, ?_, put_below hO.out _ (Nat.le_refl _) _⟩
  exact (H6.out.1.since (Since.put (by omega) _ _)).imp fun k hk _ => by omega
/- Any text. -/
theorem parse_text (t : ByteArray) (ht : t.size ≤ 10000) (w : World) (he : Ev w) : Calls Tryz.prog 17 #[.string t] w (GivesP w (parF t.data.toList)) := by
  by_cases hb : (wordsR t.data.toList).2.2 = 0
  · by_cases hq : (parP t.data.toList).er = 0
    · exact parse_yes t ht w he hb hq
    · exact parse_no t ht w he hb hq
  · exact parse_bad t ht w he hb
end Go.Proofs.YtcniebkehekliaaGreatDoor
