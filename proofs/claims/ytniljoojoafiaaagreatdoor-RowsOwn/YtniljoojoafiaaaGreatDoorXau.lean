/- A region whose order is drawn, in the body of a loop over a function. Whether keys rise: rise, over whatever hands rising keys to a loop. How many nodes stand one below the other: deep of nodes that are as they must be (Wd). What is ranged over: span, Range of a tree and of none; keys.All. -/
import Derived.Test.YtniljoojoafiaaaGreatDoorXah
import Derived.Test.YtniljoojoafiaaaGreatDoorBSpl
import Derived.Test.YtniljoojoafiaaaGreatDoorXad
import Derived.Deep.RegionLaw
namespace Go.Proofs.YtniljoojoafiaaaGreatDoor.B
open Go.RowKit Go.Shelf
set_option maxRecDepth 100000 in
theorem op_wideR {P : Program} {yl : Nat} {m : Nat} {o : Oper} {a : Act} {w : World} {K : Act → World → Prop} {Q : Exit → Act → World → Prop} (h : o.wp P a w K Q) (hr : ∀ row args w', (execOp a.eval o).run P w ≠ .ok (.row row args) w') (hd : ∀ c, o.op ≠ .defer c) : o.wpIn (Fence.wide.inRound yl) m P a w K Q := by
  unfold Oper.wpIn
  refine ⟨fun _ _ => trivial, ?_⟩
  have e2 : o.semAt (Fence.wide.inRound yl).round a.eval = execOp a.eval o := Oper.semAt_eq _ _ _ hd
  rw [e2]
  unfold Oper.wp at h
  generalize (execOp a.eval o).run P w = r at *
  cases r with
  | ok x w' =>
    cases x with
    | value v => exact h
    | skip => exact h
    | defer d => exact h
    | enter f args => exact ⟨fun h => (by cases h), callsIn_wide.2 h⟩
    | row row args => exact absurd rfl (hr row args w')
    | _ => exact h.elim
  | halt x w' => cases x <;> first | exact h | exact h.elim
set_option maxRecDepth 100000 in
theorem any_invInR {P : Program} {yl : Nat} {m : Nat} {md : Region.Mode} {ops : Array Oper} {Q : Exit → Act → World → Prop} (I : Array Bool → Act → World → Prop)
    (hsz : ∀ l a w, I l a w → l.size = ops.size) (hdone : ∀ l a w, I l a w → Region.ready md ops l = [] → Q .normal a w)
    (hstep : ∀ l a w, I l a w → ∀ i ∈ Region.ready md ops l, wpOpIn (Fence.wide.inRound yl) m P ops Q i (I (l.setIfInBounds i true)) a w) :
    ∀ (fuel : Nat) (l : Array Bool) (a : Act) (w : World), unl l ≤ fuel → I l a w → wpAnyIn (Fence.wide.inRound yl) m P md ops Q fuel l a w := by
  intro fuel
  induction fuel with
  | zero =>
    intro l a w hf h
    have hr := ready_unl (md := md) (ops := ops) (by omega : unl l = 0) (hsz l a w h)
    exact ⟨hr, hdone l a w h hr⟩
  | succ fuel ih =>
    intro l a w hf h
    refine ⟨hdone l a w h, fun i hi => ?_⟩
    refine wpOpIn_mono (fun a' w' h' => ih _ _ _ ?_ h') (hstep l a w h i hi)
    unfold Region.ready at hi
    rw [List.mem_filter, List.mem_range] at hi
    obtain ⟨h1, h2⟩ := hi
    simp only [Bool.and_eq_true, Bool.not_eq_true'] at h2
    have := unl_set (l := l) (i := i) (by rw [hsz l a w h]; exact h1) h2.1
    omega
set_option maxRecDepth 100000 in
theorem wpOpIn_wantR {P : Program} {yl : Nat} {m : Nat} {ops : Array Oper} {Q : Exit → Act → World → Prop} {i : Nat} {o : Oper} {K : Act → World → Prop} {a : Act} {w : World} (ho : ops[i]? = some o) (hg : Region.wanted o (yielded ops a.tmps) = true) (h : o.wpIn (Fence.wide.inRound yl) m P a w K Q) : wpOpIn (Fence.wide.inRound yl) m P ops Q i K a w := by
  unfold wpOpIn
  rw [ho]
  simp only [hg, if_true]
  exact h
set_option maxRecDepth 100000 in
theorem wpOpIn_skipR {P : Program} {yl : Nat} {m : Nat} {ops : Array Oper} {Q : Exit → Act → World → Prop} {i : Nat} {o : Oper} {K : Act → World → Prop} {a : Act} {w : World} (ho : ops[i]? = some o) (hg : Region.wanted o (yielded ops a.tmps) = false) (h : K (a.put o.dst undef) w) : wpOpIn (Fence.wide.inRound yl) m P ops Q i K a w := by
  unfold wpOpIn
  rw [ho]
  simp only [hg]
  exact ⟨fun _ _ => trivial, h⟩
set_option maxRecDepth 100000 in
theorem any_tailInR {P : Program} {yl : Nat} {m : Nat} {ops : Array Oper} {Q : Exit → Act → World → Prop} {id : Nat} {a0 : Act} {w : World} (hm : P.follows .mixedOrders = true) (n : Nat) (hsz : n ≤ ops.size) (ds : Nat → Nat) (R : Nat → Value → World → Prop)
    (hdep : depB ops = true) (htl : tailB ops n = true) (hinj : injB ds n = true) (hlt : sltB ds n a0.tmps.size = true)
    (hR : ∀ i v W W', R i v W → Below W.heap.size W W' → R i v W')
    (hstep : ∀ i, i < n → ∀ (a : Act) (W : World), (∀ j, (∀ i, i < n → ds i ≠ j) → a.eval (.tmp j) = a0.eval (.tmp j)) → Below w.heap.size w W → (∀ k ∈ depOf ops i, R k (a.eval (.tmp (ds k))) W) →
      ∃ o, ops[i]? = some o ∧ o.dst = some (ds i) ∧ ((Region.wanted o (yielded ops a.tmps) = true ∧ o.wpIn (Fence.wide.inRound yl) m P a W (fun a' W' => ∃ v, a' = a.put o.dst v ∧ Below W.heap.size W W' ∧ R i v W') Q) ∨ (Region.wanted o (yielded ops a.tmps) = false ∧ R i undef W)))
    (hQ : ∀ (V : Nat → Value) (W : World), Below w.heap.size w W → (∀ i, i < n → R i (V i) W) → wpListIn (Fence.wide.inRound yl) m P ops Q (ops.toList.drop n) (putAll a0 ds V n) W) :
    (Code.region id ops true).wpIn (Fence.wide.inRound yl) m P Q a0 w := by
  have hdep' : ∀ i, i < ops.size → ∀ k ∈ depOf ops i, k < i := by
    intro i hi k hk
    unfold depB at hdep
    simp only [List.all_eq_true, List.mem_range, decide_eq_true_eq] at hdep
    exact hdep i (by omega) k hk
  have hinj' : ∀ i j, i < n → j < n → ds i = ds j → i = j := by
    unfold injB at hinj
    simp only [List.all_eq_true, List.mem_range, decide_eq_true_eq] at hinj
    exact fun i j hi hj => hinj i hi j hj
  have hlt' : ∀ i, i < n → ds i < a0.tmps.size := by
    unfold sltB at hlt
    simp only [List.all_eq_true, List.mem_range, decide_eq_true_eq] at hlt
    exact hlt
  have hops : ∀ a W, wpListIn (Fence.wide.inRound yl) m P ops Q (ops.toList.drop n) a W → wpOpsIn (Fence.wide.inRound yl) m P ops Q (List.range' n (ops.size - n)) a W := by
    intro a W h
    have e := wpOpsIn_eq_wpListIn (F := (Fence.wide.inRound yl)) (n := m) (P := P) (ops := ops) (Q := Q) (ops.toList.drop n) n (fun j => by rw [List.getElem?_drop]; simp)
    rw [List.length_drop, Array.length_toList] at e
    rw [e]
    exact h
  have hfin : ∀ (l : Array Bool) (a : Act) (W : World), TI ops.size n ds R a0 w l a W → (∀ i, i < n → l.getD i false = true) → wpOpsIn (Fence.wide.inRound yl) m P ops Q (List.range' n (ops.size - n)) a W := by
    intro l a W H tt
    have he : a = putAll a0 ds (fun i => a.tmps.getD (ds i) undef) n := by
      refine act_ext (H.df.trans (putAll_df _ _ _ _).symm) (H.sz.trans (putAll_sz _ _ _ _).symm) (fun j => ?_)
      by_cases hj : ∃ i, i < n ∧ ds i = j
      · obtain ⟨i, hi, rfl⟩ := hj
        rw [putAll_eq a0 ds _ i n hinj' hlt' hi]
      · have hj' : ∀ i, i < n → ds i ≠ j := fun i hi e => hj ⟨i, hi, e⟩
        rw [putAll_ne a0 ds _ j n hj']
        exact H.rest j hj'
    have h2 := hops _ _ (hQ (fun i => a.tmps.getD (ds i) undef) W H.hb (fun i hi => H.val i hi (tt i hi)))
    rw [← he] at h2
    exact h2
  refine wpIn_region_any hm ?_
  refine any_invInR (fun l a W => l.size = ops.size ∧ (∀ m, l.getD m false = true → ∀ k ∈ depOf ops m, l.getD k false = true) ∧
    ((TI ops.size n ds R a0 w l a W ∧ (∀ i, n ≤ i → l.getD i false = false) ∧ ∃ i, i < n ∧ l.getD i false = false) ∨
      ∃ j, n ≤ j ∧ j ≤ ops.size ∧ (∀ i, i < j → l.getD i false = true) ∧ (∀ i, j ≤ i → l.getD i false = false) ∧ wpOpsIn (Fence.wide.inRound yl) m P ops Q (List.range' j (ops.size - j)) a W)) ?_ ?_ ?_ _ _ _ _ ?_ ?_
  · intro l a W H
    exact H.1
  · intro l a W H hr
    obtain ⟨hl, hcl, H⟩ := H
    have tt := all_done rfl hl hdep' hr
    rcases H with ⟨_, _, i, hi, h0⟩ | ⟨j, h1, h2, h3, h4, h5⟩
    · rw [tt i (by omega)] at h0; cases h0
    · have hj : j = ops.size := by
        rcases Nat.lt_or_ge j ops.size with h | h
        · have h6 := h4 j (Nat.le_refl _)
          rw [tt j h] at h6
          cases h6
        · omega
      subst hj
      rw [Nat.sub_self] at h5
      simpa [wpOpsIn] using h5
  · intro l a W H i hi
    obtain ⟨hl, hcl, H⟩ := H
    obtain ⟨hin, hfr, hdd⟩ := mem_ready.1 hi
    have hil : i < l.size := by omega
    have hcl2 : ∀ m, (l.setIfInBounds i true).getD m false = true → ∀ k ∈ depOf ops m, (l.setIfInBounds i true).getD k false = true := by
      intro m hm2 k hk
      rw [gset hil] at hm2 ⊢
      by_cases e : i = m
      · subst e
        split
        · rfl
        · exact hdd k hk
      · rw [if_neg e] at hm2
        split
        · rfl
        · exact hcl m hm2 k hk
    have hfr2 := fresh_at hfr
    rcases H with ⟨H, h0, i0, hi0, h00⟩ | ⟨j, h1, h2, h3, h4, h5⟩
    · by_cases hn : i < n
      · obtain ⟨o, ho, hd, hw⟩ := hstep i hn a W (fun j hj => H.rest j hj) H.hb (fun k hk => H.val k (by have := hdep' i hin k hk; omega) (hdd k hk))
        have hgo : ∀ v W', Below W.heap.size W W' → R i v W' → (fun (l : Array Bool) (a : Act) (W : World) => l.size = ops.size ∧ (∀ m, l.getD m false = true → ∀ k ∈ depOf ops m, l.getD k false = true) ∧
          ((TI ops.size n ds R a0 w l a W ∧ (∀ i, n ≤ i → l.getD i false = false) ∧ ∃ i, i < n ∧ l.getD i false = false) ∨
            ∃ j, n ≤ j ∧ j ≤ ops.size ∧ (∀ i, i < j → l.getD i false = true) ∧ (∀ i, j ≤ i → l.getD i false = false) ∧ wpOpsIn (Fence.wide.inRound yl) m P ops Q (List.range' j (ops.size - j)) a W)) (l.setIfInBounds i true) (a.put (some (ds i)) v) W' := by
          intro v W' hb hv
          have H2 := H.step hR hinj' hlt' hsz hn hb hv
          refine ⟨H2.len, hcl2, ?_⟩
          by_cases hall : ∀ k, k < n → (l.setIfInBounds i true).getD k false = true
          · refine Or.inr ⟨n, Nat.le_refl _, hsz, hall, fun k hk => ?_, hfin _ _ _ H2 hall⟩
            rw [lset (by omega)]
            exact h0 k hk
          · refine Or.inl ⟨H2, fun k hk => ?_, ?_⟩
            · rw [lset (by omega)]
              exact h0 k hk
            · obtain ⟨k, hk⟩ := Classical.not_forall.1 hall
              obtain ⟨hk1, hk2⟩ := Classical.not_imp.1 hk
              exact ⟨k, hk1, by simpa using hk2⟩
        rcases hw with ⟨hg, hw⟩ | ⟨hg, hw⟩
        · refine wpOpIn_wantR ho hg (Oper.wpIn_mono ?_ hw)
          rintro a' W' ⟨v, rfl, hb, hv⟩
          rw [hd]
          exact hgo v W' hb hv
        · refine wpOpIn_skipR ho hg ?_
          rw [hd]
          exact hgo _ W (Below.refl _ _) hw
      · have := tail_ready htl hcl hin (by omega) hdd i0 (by omega)
        rw [h00] at this
        cases this
    · have hij : i = j := by
        rcases Nat.lt_trichotomy i j with h | h | h
        · rw [h3 i h] at hfr2; cases hfr2
        · exact h
        · have h6 := tail_ready htl hcl hin (by omega) hdd j h
          rw [h4 j (Nat.le_refl _)] at h6
          cases h6
      subst hij
      have e : ops.size - i = (ops.size - (i + 1)) + 1 := by omega
      rw [e, List.range'_succ, wpOpsIn_cons] at h5
      refine wpOpIn_mono (fun a' W' h' => ?_) h5
      refine ⟨by simp [hl], hcl2, Or.inr ⟨i + 1, by omega, by omega, fun k hk => ?_, fun k hk => ?_, h'⟩⟩
      · rw [gset hil]
        split
        · rfl
        · exact h3 k (by omega)
      · rw [lset (by omega)]
        exact h4 k (by omega)
  · simp only [unl, Array.toList_replicate]
    exact Nat.le_trans (List.length_filter_le _ _) (by simp)
  · have hrep : ∀ j, (Array.replicate ops.size false).getD j false = false := fun j => by simp [Array.getD_eq_getD_getElem?, Array.getElem?_replicate]; split <;> rfl
    have H0 : TI ops.size n ds R a0 w (Array.replicate ops.size false) a0 w.drew := { len := by simp, df := rfl, sz := rfl, rest := fun _ _ => rfl, hb := (Below.refl _ w).drew, val := fun i _ h => absurd ((hrep _).symm.trans h) (by decide) }
    refine ⟨by simp, fun m h => absurd ((hrep _).symm.trans h) (by decide), ?_⟩
    by_cases hn : n = 0
    · refine Or.inr ⟨0, by omega, by omega, fun i hi => absurd hi (by omega), fun i _ => hrep i, ?_⟩
      have := hfin _ _ _ H0 (fun i hi => absurd hi (by omega))
      rw [hn] at this
      exact this
    · exact Or.inl ⟨H0, fun i _ => hrep i, 0, by omega, hrep 0⟩
set_option maxRecDepth 100000 in
theorem wpIn_valueR {P : Program} {yl : Nat} {m : Nat} {o : Oper} {a : Act} {w w' : World} {K : Act → World → Prop} {Q : Exit → Act → World → Prop} {v : Value} (hrun : (execOp a.eval o).run P w = .ok (.value v) w') (hd : ∀ c, o.op ≠ .defer c) (h : K (a.put o.dst v) w') : o.wpIn (Fence.wide.inRound yl) m P a w K Q := by
  refine op_wideR (wp_value hrun h) ?_ hd
  intro row args w2 e
  rw [hrun] at e
  cases e
set_option maxRecDepth 100000 in
theorem wpIn_enterR {P : Program} {yl : Nat} {m : Nat} {o : Oper} {a : Act} {w : World} {K : Act → World → Prop} {Q : Exit → Act → World → Prop} {f : FuncId} {args : Array Value} (hrun : (execOp a.eval o).run P w = .ok (.enter f args) w) (hd : ∀ c, o.op ≠ .defer c)
    (hc : Calls P f args w fun e w' => ∃ v, e = .returned v ∧ K (a.put o.dst v) w') : o.wpIn (Fence.wide.inRound yl) m P a w K Q := by
  refine op_wideR (wp_enter hrun hc) ?_ hd
  intro row args w2 e
  rw [hrun] at e
  cases e
end Go.Proofs.YtniljoojoafiaaaGreatDoor.B
namespace Go.Proofs.YtniljoojoafiaaaGreatDoor.B
open Go.RowKit Go.Shelf
attribute [local go_sem] Oper.semAt_some
def lastK : List Im → ByteArray
  | [] => ⟨#[]⟩
  | x :: l => lastK2 x l
where lastK2 : Im → List Im → ByteArray
  | x, [] => x.1
  | _, y :: l => lastK2 y l
set_option maxRecDepth 100000 in
theorem lastK_snoc (pre : List Im) (x : Im) : lastK (pre ++ [x]) = x.1 := by
  have : ∀ (l : List Im) (y : Im), lastK.lastK2 y (l ++ [x]) = x.1 := by
    intro l
    induction l with
    | nil => intro y; rfl
    | cons z l ih => intro y; exact ih z
  cases pre with
  | nil => rfl
  | cons y l => exact this l y
set_option maxRecDepth 100000 in
theorem sc_other {W : World} {b o k : Nat} {v : Value} (h : k ≠ b) : (W.setCell ⟨b, o, none⟩ v).heap[k]? = W.heap[k]? := heap_setCell_other _ _ _ _ h
set_option maxRecDepth 100000 in
theorem ris_last {xs pre : List Im} {x : Im} (hr : Ris xs) (hp : pre ++ [x] <+: xs) (hne : pre ≠ []) : ltB (lastK pre) x.1 = true := by
  obtain ⟨r, rfl⟩ := hp
  obtain ⟨q, y, rfl⟩ : ∃ q y, pre = q ++ [y] := by
    rcases List.eq_nil_or_concat pre with h | h
    · exact absurd h hne
    · obtain ⟨q, y, h⟩ := h
      exact ⟨q, y, by rw [h, List.concat_eq_append]⟩
  rw [lastK_snoc]
  have h := hr q.length (q.length + 1) (by omega) (by simp)
  simpa using h
end Go.Proofs.YtniljoojoafiaaaGreatDoor.B
namespace Go.Proofs.YtniljoojoafiaaaGreatDoor.B
open Go.RowKit Go.Shelf
def Wd : (h : Nat) → Nat → Nd h → Prop
  | 0, l, t => l ≤ (its 0 t).length ∧ (its 0 t).length ≤ 7
  | h + 1, l, t => l ≤ t.1.length ∧ t.1.length ≤ 7 ∧ 0 < t.1.length ∧ t.2.length = t.1.length + 1 ∧ ∀ i, i < t.2.length → Wd h 3 (t.2.getD i (dflt h))
end Go.Proofs.YtniljoojoafiaaaGreatDoor.B
namespace Go.Proofs.YtniljoojoafiaaaGreatDoor.B
open Go.RowKit Go.Shelf
set_option maxRecDepth 100000 in
set_option maxHeartbeats 1000000 in
theorem span_any (a b : Value) (ha : a.oneCell' = true) (hb : b.oneCell' = true) (p : Option Addr) (n c : Nat) (q : Option Addr) (m d : Nat) (ea : a = .slice p n c) (eb : b = .slice q m d) (lo hi : ByteArray) (w : World) :
    Calls Tryz.prog 71 #[.agg #[a, b], .agg #[.string lo, .string hi]] w fun e w' => e = .returned (.func (.func 103) #[] #[.pointer (some ⟨w.heap.size, 0, none⟩), .pointer (some ⟨w.heap.size + 1, 0, none⟩)]) ∧
      w' = (w.alloc (.cells #[a, b] 108)).alloc (.cells #[.string lo, .string hi] 24) := by
  subst ea eb
  go_enter Tryz.func71, Tryz.ntmps71
  go_wp2
  go_ret
  exact ⟨rfl, rfl⟩
/- What Range answers: the function, with a node and a span. -/
def Rgd (a b : Value) (lo hi : ByteArray) (w : World) (e : Ending) (w' : World) : Prop :=
  ∃ bn bs, e = .returned (.func (.func 103) #[] #[.pointer (some ⟨bn, 0, none⟩), .pointer (some ⟨bs, 0, none⟩)]) ∧ w.heap.size ≤ bn ∧ w.heap.size ≤ bs ∧
    w'.heap[bn]? = some (.cells #[a, b] 108 (0, 0)) ∧ w'.heap[bs]? = some (.cells #[.string lo, .string hi] 24 (0, 0)) ∧ Below w.heap.size w w'
set_option maxRecDepth 100000 in
theorem two_rows (w : World) (x y : Obj) : ((w.alloc x).alloc y).heap[w.heap.size]? = (w.alloc x).heap[w.heap.size]? ∧ ((w.alloc x).alloc y).heap[w.heap.size + 1]? = ((w.alloc x).alloc y).heap[(w.alloc x).heap.size]? :=
  ⟨Below.heap_alloc _ _ _ (by simp), by simp⟩
set_option maxRecDepth 100000 in
theorem span_rows (w : World) (x y : Array Value) (s t : TypeId) : ((w.alloc (.cells x s)).alloc (.cells y t)).heap[w.heap.size]? = some (.cells x s (0, 0)) ∧ ((w.alloc (.cells x s)).alloc (.cells y t)).heap[w.heap.size + 1]? = some (.cells y t (0, 0)) := by
  refine ⟨(two_rows _ _ _).1.trans (heap_alloc_new _ _), ?_⟩
  have := heap_alloc_new (w.alloc (.cells x s)) (.cells y t)
  simpa using this
set_option maxRecDepth 100000 in
set_option maxHeartbeats 2000000 in
theorem range_nil (lo hi : ByteArray) (w : World) : Calls Tryz.prog 45 #[.pointer none, .agg #[.string lo, .string hi]] w (Rgd (.slice none 0 0) (.slice none 0 0) lo hi w) := by
  have ks := fun W => span_any (.slice none 0 0) (.slice none 0 0) rfl rfl _ _ _ _ _ _ rfl rfl lo hi W
  obtain ⟨Po, hPo⟩ : ∃ Po, Po = Rgd (.slice none 0 0) (.slice none 0 0) lo hi w := ⟨_, rfl⟩
  rw [← hPo]
  have HP : Hid (Po = Rgd (.slice none 0 0) (.slice none 0 0) lo hi w) := hPo
  clear hPo
  go_enter Tryz.func45, Tryz.ntmps45
  go_wp2_with fail
  refine (ks _).mono ?_
  rintro e w1 ⟨rfl, hw1⟩
  go_wp2
  rw [HP.out]
  obtain ⟨h1, h2⟩ := span_rows (w.alloc (.cells #[.string lo, .string hi] 24)) #[.slice none 0 0, .slice none 0 0] #[.string lo, .string hi] 108 24
  rw [World.size_alloc] at h1 h2
  exact ⟨_, _, rfl, by omega, by omega, h1, h2, (((Below.refl _ w).alloc (Nat.le_refl _) _).alloc (by simp) _).alloc (by simp; omega) _⟩
set_option maxRecDepth 100000 in
set_option maxHeartbeats 2000000 in
theorem range_tree (p : Option Addr) (n c : Nat) (q : Option Addr) (m d : Nat) (z : Value) (b : Nat) (lo hi : ByteArray) (w : World) (hr : w.heap[b]? = some (.cells #[.slice p n c, .slice q m d, z] 110 (0, 0))) :
    Calls Tryz.prog 45 #[.pointer (some ⟨b, 0, none⟩), .agg #[.string lo, .string hi]] w (Rgd (.slice p n c) (.slice q m d) lo hi w) := by
  have ks := fun W => span_any (.slice p n c) (.slice q m d) rfl rfl _ _ _ _ _ _ rfl rfl lo hi W
  obtain ⟨Po, hPo⟩ : ∃ Po, Po = Rgd (.slice p n c) (.slice q m d) lo hi w := ⟨_, rfl⟩
  rw [← hPo]
  have HP : Hid (Po = Rgd (.slice p n c) (.slice q m d) lo hi w) := hPo
  clear hPo
  have hr1 := (Below.heap_alloc w (.cells #[.string lo, .string hi] 24) _ (lt_of_row hr)).trans hr
  have c0 := cell_of_row _ _ 0 _ _ _ hr1
  have c1 := cell_of_row _ _ 1 _ _ _ hr1
  go_enter Tryz.func45, Tryz.ntmps45
  go_wp2
  go_region_law (go_simp; go_at_call 71; refine (ks _).mono ?_; rintro e w1 ⟨rfl, hw1⟩; dsimp only)
  all_goals
    go_wp2
    go_ret
    rw [HP.out]
    obtain ⟨h1, h2⟩ := span_rows (w.alloc (.cells #[.string lo, .string hi] 24)) #[.slice p n c, .slice q m d] #[.string lo, .string hi] 108 24
    rw [World.size_alloc] at h1 h2
    exact ⟨_, _, rfl, by omega, by omega, h1, h2, ((((Below.refl _ w).alloc (Nat.le_refl _) _).alloc (by simp) _).alloc (by simp; omega) _).drew⟩
end Go.Proofs.YtniljoojoafiaaaGreatDoor.B
