/- Drawn regions with a store among their operations (any_storeIn), and a block written over in its middle. -/
import Derived.Test.YtfcenidepkjdcaaDoorXad
namespace Go.Proofs.YtfcenidepkjdcaaDoor
open Go.RowKit Go.Shelf
namespace B
theorem getD_out {l : Array Value} {j : Nat} (h : l.size ≤ j) : l.getD j undef = undef := by
  rw [Array.getD_eq_getD_getElem?, Array.getElem?_eq_none h]
  rfl
theorem put_out {a : Act} {d : Nat} {v : Value} (h : a.tmps.size ≤ d) : a.put (some d) v = a := by
  obtain ⟨t, ds⟩ := a
  simp only [Act.put]
  congr 1
  exact Array.setIfInBounds_eq_of_size_le h
set_option maxRecDepth 100000 in
theorem putAll_eq' (a : Act) (ds : Nat → Nat) (V : Nat → Value) (i : Nat) : ∀ n, (∀ i j, i < n → j < n → ds i = ds j → i = j) → ds i < a.tmps.size → i < n → (putAll a ds V n).tmps.getD (ds i) undef = V i
  | 0, _, _, h => absurd h (Nat.not_lt_zero _)
  | n + 1, hi, hl, h => by
    show ((putAll a ds V n).put (some (ds n)) (V n)).tmps.getD (ds i) undef = V i
    by_cases e : i = n
    · subst e
      rw [put_eq (by rw [putAll_sz]; exact hl)]
    · rw [put_ne (fun h2 => e (hi n i (by omega) h h2).symm)]
      exact putAll_eq' a ds V i n (fun i j h1 h2 => hi i j (by omega) (by omega)) hl (by omega)
structure TJ (F : World → World → Prop) (N n : Nat) (ds : Nat → Nat) (R : Nat → Value → World → Prop) (a0 : Act) (w0 : World) (l : Array Bool) (a : Act) (w : World) : Prop where
  len : l.size = N
  df : a.defers = a0.defers
  sz : a.tmps.size = a0.tmps.size
  rest : ∀ j, (∀ i, i < n → ds i ≠ j) → a.tmps.getD j undef = a0.tmps.getD j undef
  hb : F w0 w
  val : ∀ i, i < n → l.getD i false = true → R i (a.tmps.getD (ds i) undef) w
set_option maxRecDepth 100000 in
theorem TJ.step {F : World → World → Prop} {N n : Nat} {ds : Nat → Nat} {R : Nat → Value → World → Prop} {a0 : Act} {w0 : World} {l : Array Bool} {a : Act} {w w' : World} (H : TJ F N n ds R a0 w0 l a w) (hFt : ∀ a b c, F a b → F b c → F a c) (hR : ∀ i v W W', R i v W → F W W' → R i v W')
    (hinj : ∀ i j, i < n → j < n → ds i = ds j → i = j) (hN : n ≤ N) {i : Nat} (hi : i < n) {v : Value} (hb : F w w') (hv : R i v w') (hu : a0.tmps.size ≤ ds i → v = undef) :
    TJ F N n ds R a0 w0 (l.setIfInBounds i true) (a.put (some (ds i)) v) w' := by
  have hil : i < l.size := by rw [H.len]; omega
  refine { len := by simp [H.len], df := H.df, sz := (put_size' _ _ _).trans H.sz, rest := fun j hj => (put_ne (hj i hi)).trans (H.rest j hj), hb := hFt _ _ _ H.hb hb, val := fun k hk h => ?_ }
  by_cases e : k = i
  · subst e
    rcases Nat.lt_or_ge (ds k) a.tmps.size with hlt | hlt
    · rw [put_eq hlt]
      exact hv
    · rw [put_out hlt, getD_out hlt, ← hu (by rw [← H.sz]; exact hlt)]
      exact hv
  · rw [gset hil, if_neg (Ne.symm e)] at h
    rw [put_ne (fun h2 => e (hinj i k hi hk h2).symm)]
    exact hR k _ _ _ (H.val k hk h) hb
set_option maxRecDepth 100000 in
theorem any_storeIn {P : Program} {m : Nat} {ops : Array Oper} {Q : Exit → Act → World → Prop} {id : Nat} {a0 : Act} {w : World} (hm : P.follows .mixedOrders = true) (n : Nat) (hsz : n ≤ ops.size) (ds : Nat → Nat) (R : Nat → Value → World → Prop)
    (F : World → World → Prop) (hF0 : F w w.drew) (hFr : ∀ W, F W W) (hFt : ∀ a b c, F a b → F b c → F a c) (hdep : depB ops = true) (htl : tailB ops n = true) (hinj : injB ds n = true)
    (hR : ∀ i v W W', R i v W → F W W' → R i v W')
    (hstep : ∀ i, i < n → ∀ (a : Act) (W : World), (∀ j, (∀ i, i < n → ds i ≠ j) → a.eval (.tmp j) = a0.eval (.tmp j)) → F w W → (∀ k ∈ depOf ops i, R k (a.eval (.tmp (ds k))) W) →
      ∃ o, ops[i]? = some o ∧ (o.dst = some (ds i) ∧ ds i < a0.tmps.size ∨ o.dst = none ∧ a0.tmps.size ≤ ds i) ∧ ((Region.wanted o (yielded ops a.tmps) = true ∧ o.wpIn Fence.wide m P a W (fun a' W' => ∃ v, a' = a.put o.dst v ∧ F W W' ∧ R i v W' ∧ (o.dst = none → v = undef)) Q) ∨ (Region.wanted o (yielded ops a.tmps) = false ∧ R i undef W)))
    (hQ : ∀ (V : Nat → Value) (W : World), F w W → (∀ i, i < n → R i (V i) W) → wpListIn Fence.wide m P ops Q (ops.toList.drop n) (putAll a0 ds V n) W) :
    (Code.region id ops true).wpIn Fence.wide m P Q a0 w := by
  have hdep' : ∀ i, i < ops.size → ∀ k ∈ depOf ops i, k < i := by
    intro i hi k hk
    unfold depB at hdep
    simp only [List.all_eq_true, List.mem_range, decide_eq_true_eq] at hdep
    exact hdep i (by omega) k hk
  have hinj' : ∀ i j, i < n → j < n → ds i = ds j → i = j := by
    unfold injB at hinj
    simp only [List.all_eq_true, List.mem_range, decide_eq_true_eq] at hinj
    exact fun i j hi hj => hinj i hi j hj
  have hops : ∀ a W, wpListIn Fence.wide m P ops Q (ops.toList.drop n) a W → wpOpsIn Fence.wide m P ops Q (List.range' n (ops.size - n)) a W := by
    intro a W h
    have e := wpOpsIn_eq_wpListIn (F := Fence.wide) (n := m) (P := P) (ops := ops) (Q := Q) (ops.toList.drop n) n (fun j => by rw [List.getElem?_drop]; simp)
    rw [List.length_drop, Array.length_toList] at e
    rw [e]
    exact h
  have hfin : ∀ (l : Array Bool) (a : Act) (W : World), TJ F ops.size n ds R a0 w l a W → (∀ i, i < n → l.getD i false = true) → wpOpsIn Fence.wide m P ops Q (List.range' n (ops.size - n)) a W := by
    intro l a W H tt
    have he : a = putAll a0 ds (fun i => a.tmps.getD (ds i) undef) n := by
      refine act_ext (H.df.trans (putAll_df _ _ _ _).symm) (H.sz.trans (putAll_sz _ _ _ _).symm) (fun j => ?_)
      by_cases hj : ∃ i, i < n ∧ ds i = j
      · obtain ⟨i, hi, rfl⟩ := hj
        rcases Nat.lt_or_ge (ds i) a0.tmps.size with hlt | hlt
        · rw [putAll_eq' a0 ds _ i n hinj' hlt hi]
        · rw [getD_out (by rw [H.sz]; exact hlt), getD_out (by rw [putAll_sz]; exact hlt)]
      · have hj' : ∀ i, i < n → ds i ≠ j := fun i hi e => hj ⟨i, hi, e⟩
        rw [putAll_ne a0 ds _ j n hj']
        exact H.rest j hj'
    have h2 := hops _ _ (hQ (fun i => a.tmps.getD (ds i) undef) W H.hb (fun i hi => H.val i hi (tt i hi)))
    rw [← he] at h2
    exact h2
  refine wpIn_region_any hm ?_
  refine any_invIn (fun l a W => l.size = ops.size ∧ (∀ m, l.getD m false = true → ∀ k ∈ depOf ops m, l.getD k false = true) ∧
    ((TJ F ops.size n ds R a0 w l a W ∧ (∀ i, n ≤ i → l.getD i false = false) ∧ ∃ i, i < n ∧ l.getD i false = false) ∨
      ∃ j, n ≤ j ∧ j ≤ ops.size ∧ (∀ i, i < j → l.getD i false = true) ∧ (∀ i, j ≤ i → l.getD i false = false) ∧ wpOpsIn Fence.wide m P ops Q (List.range' j (ops.size - j)) a W)) ?_ ?_ ?_ _ _ _ _ ?_ ?_
  · intro l a W H
    exact H.1
  · intro l a W H hr
    obtain ⟨hl, hcl, H⟩ := H
    have tt := all_done rfl hl hdep' hr
    rcases H with ⟨_, _, i, hi, h0⟩ | ⟨j, h1, h2, h3, h4, h5⟩
    · rw [tt i (by omega)] at h0; cases h0
    · have hj : j = ops.size := by
        rcases Nat.lt_or_ge j ops.size with h | h
        · have h6 := h4 j (Nat.le_refl _)
          rw [tt j h] at h6
          cases h6
        · omega
      subst hj
      rw [Nat.sub_self] at h5
      simpa [wpOpsIn] using h5
  · intro l a W H i hi
    obtain ⟨hl, hcl, H⟩ := H
    obtain ⟨hin, hfr, hdd⟩ := mem_ready.1 hi
    have hil : i < l.size := by omega
    have hcl2 : ∀ m, (l.setIfInBounds i true).getD m false = true → ∀ k ∈ depOf ops m, (l.setIfInBounds i true).getD k false = true := by
      intro m hm2 k hk
      rw [gset hil] at hm2 ⊢
      by_cases e : i = m
      · subst e
        split
        · rfl
        · exact hdd k hk
      · rw [if_neg e] at hm2
        split
        · rfl
        · exact hcl m hm2 k hk
    have hfr2 := fresh_at hfr
    rcases H with ⟨H, h0, i0, hi0, h00⟩ | ⟨j, h1, h2, h3, h4, h5⟩
    · by_cases hn : i < n
      · obtain ⟨o, ho, hd, hw⟩ := hstep i hn a W (fun j hj => H.rest j hj) H.hb (fun k hk => H.val k (by have := hdep' i hin k hk; omega) (hdd k hk))
        have hput : ∀ v, a.put o.dst v = a.put (some (ds i)) v := by
          intro v
          rcases hd with ⟨e, _⟩ | ⟨e, h⟩
          · rw [e]
          · rw [e, put_out (by rw [H.sz]; exact h)]; rfl
        have hdn : a0.tmps.size ≤ ds i → o.dst = none := by
          intro h
          rcases hd with ⟨_, h2⟩ | ⟨e, _⟩
          · omega
          · exact e
        have hgo : ∀ v W', F W W' → R i v W' → (a0.tmps.size ≤ ds i → v = undef) → (fun (l : Array Bool) (a : Act) (W : World) => l.size = ops.size ∧ (∀ m, l.getD m false = true → ∀ k ∈ depOf ops m, l.getD k false = true) ∧
          ((TJ F ops.size n ds R a0 w l a W ∧ (∀ i, n ≤ i → l.getD i false = false) ∧ ∃ i, i < n ∧ l.getD i false = false) ∨
            ∃ j, n ≤ j ∧ j ≤ ops.size ∧ (∀ i, i < j → l.getD i false = true) ∧ (∀ i, j ≤ i → l.getD i false = false) ∧ wpOpsIn Fence.wide m P ops Q (List.range' j (ops.size - j)) a W)) (l.setIfInBounds i true) (a.put (some (ds i)) v) W' := by
          intro v W' hb hv hu
          have H2 := H.step hFt hR hinj' hsz hn hb hv hu
          refine ⟨H2.len, hcl2, ?_⟩
          by_cases hall : ∀ k, k < n → (l.setIfInBounds i true).getD k false = true
          · refine Or.inr ⟨n, Nat.le_refl _, hsz, hall, fun k hk => ?_, hfin _ _ _ H2 hall⟩
            rw [lset (by omega)]
            exact h0 k hk
          · refine Or.inl ⟨H2, fun k hk => ?_, ?_⟩
            · rw [lset (by omega)]
              exact h0 k hk
            · obtain ⟨k, hk⟩ := Classical.not_forall.1 hall
              obtain ⟨hk1, hk2⟩ := Classical.not_imp.1 hk
              exact ⟨k, hk1, by simpa using hk2⟩
        rcases hw with ⟨hg, hw⟩ | ⟨hg, hw⟩
        · refine wpOpIn_want ho hg (Oper.wpIn_mono ?_ hw)
          rintro a' W' ⟨v, rfl, hb, hv, hu⟩
          rw [hput v]
          exact hgo v W' hb hv (fun h => hu (hdn h))
        · refine wpOpIn_skip ho hg ?_
          rw [hput undef]
          exact hgo _ W (hFr W) hw (fun _ => rfl)
      · have := tail_ready htl hcl hin (by omega) hdd i0 (by omega)
        rw [h00] at this
        cases this
    · have hij : i = j := by
        rcases Nat.lt_trichotomy i j with h | h | h
        · rw [h3 i h] at hfr2; cases hfr2
        · exact h
        · have h6 := tail_ready htl hcl hin (by omega) hdd j h
          rw [h4 j (Nat.le_refl _)] at h6
          cases h6
      subst hij
      have e : ops.size - i = (ops.size - (i + 1)) + 1 := by omega
      rw [e, List.range'_succ, wpOpsIn_cons] at h5
      refine wpOpIn_mono (fun a' W' h' => ?_) h5
      refine ⟨by simp [hl], hcl2, Or.inr ⟨i + 1, by omega, by omega, fun k hk => ?_, fun k hk => ?_, h'⟩⟩
      · rw [gset hil]
        split
        · rfl
        · exact h3 k (by omega)
      · rw [lset (by omega)]
        exact h4 k (by omega)
  · simp only [unl, Array.toList_replicate]
    exact Nat.le_trans (List.length_filter_le _ _) (by simp)
  · have hrep : ∀ j, (Array.replicate ops.size false).getD j false = false := fun j => by simp [Array.getD_eq_getD_getElem?, Array.getElem?_replicate]; split <;> rfl
    have H0 : TJ F ops.size n ds R a0 w (Array.replicate ops.size false) a0 w.drew := { len := by simp, df := rfl, sz := rfl, rest := fun _ _ => rfl, hb := hF0, val := fun i _ h => absurd ((hrep _).symm.trans h) (by decide) }
    refine ⟨by simp, fun m h => absurd ((hrep _).symm.trans h) (by decide), ?_⟩
    by_cases hn : n = 0
    · refine Or.inr ⟨0, by omega, by omega, fun i hi => absurd hi (by omega), fun i _ => hrep i, ?_⟩
      have := hfin _ _ _ H0 (fun i hi => absurd hi (by omega))
      rw [hn] at this
      exact this
    · exact Or.inl ⟨H0, fun i _ => hrep i, 0, by omega, hrep 0⟩
end B
def setAll : Array Value → Nat → List Value → Array Value
  | cs, _, [] => cs
  | cs, o, v :: r => setAll (cs.setIfInBounds o v) (o + 1) r
theorem heap_setCells_mid (g : Nat) (t : TypeId) : ∀ (vs : List Value) (o : Nat) (W : World) (cs : Array Value), W.heap[g]? = some (.cells cs t (0, 0)) → (W.setCells g o vs).heap[g]? = some (.cells (setAll cs o vs) t (0, 0))
  | [], _, _, _, h => h
  | v :: r, o, W, cs, h => heap_setCells_mid g t r (o + 1) _ _ (heap_setCell_same W g o cs t v h)
theorem there_mid {w : World} {z o n : Nat} {cs : Array Value} {t : TypeId} (h : w.heap[z]? = some (.cells cs t (0, 0))) (hn : o + n ≤ cs.size) : w.there z o n := by
  intro j hj
  refine ⟨?_, frozen_of_row w _ (o + j) _ _ h⟩
  rw [cell_of_row w z (o + j) cs t _ h]
  simp
  omega
theorem only_setCells {b : Nat} {u : World} : ∀ (vs : List Value) (o : Nat) (v : World), V.Only b u v → V.Only b u (v.setCells b o vs)
  | [], _, _, h => h
  | x :: r, o, _, h => only_setCells r (o + 1) _ (h.setCell o x)
theorem only_drew (z : Nat) (W : World) : V.Only z W W.drew := ⟨rfl, rfl, rfl, Nat.le_refl _, fun _ _ _ => rfl⟩
theorem wpIn_store {m : Nat} {op : Oper} {a : Act} {w : World} {K : Act → World → Prop} {Q : Exit → Act → World → Prop} (ty : TypeId) (x y : Operand) (ho : op.op = .store ty x y)
    (b o : Nat) (cells : Array Value) (hx : a.eval x = .pointer (some ⟨b, o, none⟩)) (hy : a.eval y = .agg cells)
    (ht : w.there b o cells.size) (hi : (Tryd.prog.info? ty).map (·.size) = some cells.size) (h1 : cells.all (·.oneCell') = true)
    (h : K (a.put op.dst undef) (w.setCells b o cells.toList)) : op.wpIn Fence.wide m Tryd.prog a w K Q := by
  refine B.op_wide (wp_store_mid ty x y ho b o cells hx hy ht hi h1 h) ?_
  intro row args w' e
  unfold execOp at e
  simp only [ho, hx, hy, Instr.storeAt, Instr.sureAddr, Sem.run_bind, Sem.run_pure, Result.andThen_ok, run_storeVar_mid w b o ty cells ht hi h1] at e
  cases e
/- One block stays, or becomes another one; all others stay. -/
def Fz (z : Nat) (Z X : Option Obj) (W W' : World) : Prop := V.Only z W W' ∧ (W.heap[z]? = X → W'.heap[z]? = X) ∧ (W.heap[z]? = Z → W'.heap[z]? = Z ∨ W'.heap[z]? = X)
theorem Fz.refl (z : Nat) (Z X : Option Obj) (W : World) : Fz z Z X W W := ⟨V.Only.refl _ _, id, Or.inl⟩
theorem Fz.drew (z : Nat) (Z X : Option Obj) (W : World) : Fz z Z X W W.drew := ⟨only_drew _ _, id, Or.inl⟩
theorem Fz.trans {z : Nat} {Z X : Option Obj} {a b c : World} (h : Fz z Z X a b) (k : Fz z Z X b c) : Fz z Z X a c :=
  ⟨h.1.trans k.1, fun e => k.2.1 (h.2.1 e), fun e => (h.2.2 e).elim k.2.2 (fun e2 => Or.inr (k.2.1 e2))⟩
theorem Fz.of {z : Nat} {Z X : Option Obj} {W W' : World} (h : Below W.heap.size W W') (hz : z < W.heap.size) : Fz z Z X W W' :=
  ⟨V.Only.ofBelow h, fun e => (h.block z hz).trans e, fun e => Or.inl ((h.block z hz).trans e)⟩
end Go.Proofs.YtfcenidepkjdcaaDoor
