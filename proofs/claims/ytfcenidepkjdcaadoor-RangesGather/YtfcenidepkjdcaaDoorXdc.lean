/- Looks as the laws gather them, plain; a list of touches of one's own. An append in a region that draws its order, onto a list of one's own; a set and a list beside one another. Small facts for RangesGather; the places where its walk is cut. -/
import Derived.Test.YtfcenidepkjdcaaDoorThl
import Derived.Test.YtfcenidepkjdcaaDoorXdb
import Derived.Test.YtfcenidepkjdcaaDoorCud
namespace Go.Proofs.YtfcenidepkjdcaaDoor
open Go.RowKit Go.Shelf
def lw1 (x r : Rd) : Bool := (x.tb.toList == r.tb.toList) && ((x.fl.toList == (⟨#[]⟩ : ByteArray).toList) && ((x.lo.toList == (⟨#[]⟩ : ByteArray).toList) && (x.hi.toList == (⟨#[]⟩ : ByteArray).toList)))
def lwf (r x : Rd) : Bool := x.eq r || lw1 x r
def plain (x : Rd) : Prop := x.fl.toList.isEmpty = true → x = whR x
theorem list_inj {a b : ByteArray} (h : a.toList = b.toList) : a = b := by
  rw [Lib.toList_data, Lib.toList_data] at h
  obtain ⟨⟨x⟩⟩ := a
  obtain ⟨⟨y⟩⟩ := b
  simp at h
  subst h
  rfl
theorem eq_iff {x y : Rd} : x.eq y = true ↔ x = y := by
  constructor
  · intro h
    unfold Rd.eq at h
    simp only [Bool.and_eq_true, beq_iff_eq] at h
    obtain ⟨h1, h2, h3, h4⟩ := h
    cases x; cases y
    simp only [Rd.mk.injEq]
    exact ⟨list_inj h1, list_inj h2, list_inj h3, list_inj h4⟩
  · rintro rfl
    unfold Rd.eq
    simp
theorem lw1_wh (x r : Rd) : lw1 x r = x.eq (whR r) := rfl
theorem knows_law {M : List Rd} (hM : ∀ x ∈ M, plain x) (r : Rd) : knows M r = M.any (lwf r) := by
  unfold knows
  have : ∀ x ∈ M, (x.eq (plR r) || x.eq (whR r)) = lwf r x := by
    intro x hx
    unfold lwf
    rw [lw1_wh]
    unfold plR
    split
    · rename_i hf
      cases h1 : x.eq (whR r) with
      | true => simp
      | false =>
        have : x.eq r = false := by
          cases h2 : x.eq r with
          | false => rfl
          | true =>
            have e := eq_iff.1 h2
            subst e
            have e2 := hM x hx hf
            have : x.eq (whR x) = true := eq_iff.2 e2
            rw [this] at h1
            cases h1
        rw [this]
    · rfl
  induction M with
  | nil => rfl
  | cons a M ih =>
    rw [List.any_cons, List.any_cons, this a (by simp), ih (fun x hx => hM x (by simp [hx])) (fun x hx => this x (by simp [hx]))]
theorem plain_add {M : List Rd} (hM : ∀ x ∈ M, plain x) (r : Rd) : ∀ x ∈ addL M r, plain x := by
  have hp : plain (plR r) := by
    unfold plR plain
    split
    · exact fun _ => rfl
    · rename_i h
      exact fun h2 => absurd h2 h
  intro x hx
  unfold addL at hx
  rcases List.mem_append.1 hx with hx | hx
  · split at hx
    · exact hM x (List.mem_filter.1 hx).1
    · exact hM x hx
  · rw [List.mem_singleton] at hx
    rw [hx]
    exact hp
/- What is added, by the law's own ways. -/
theorem add_all {M : List Rd} {r : Rd} (h : r.fl.toList.isEmpty = true) : addL M r = M.filter (fun x => !(x.tb.toList == r.tb.toList)) ++ [whR r] := by
  unfold addL plR
  rw [if_pos h, if_pos (eq_iff.2 rfl)]
theorem add_some {M : List Rd} {r : Rd} (h : r.fl.toList.isEmpty = false) : addL M r = M ++ [r] := by
  unfold addL plR
  rw [h, if_neg Bool.false_ne_true, if_neg]
  intro e
  have e2 := eq_iff.1 e
  have : r.fl.toList.isEmpty = true := by
    rw [e2]
    show (⟨#[]⟩ : ByteArray).toList.isEmpty = true
    decide +kernel
  rw [h] at this
  cases this
theorem add_le {M : List Rd} (r : Rd) : (addL M r).length ≤ M.length + 1 := by
  unfold addL
  rw [List.length_append]
  have : (if (plR r).eq (whR r) = true then M.filter (fun x => !(x.tb.toList == r.tb.toList)) else M).length ≤ M.length := by
    split
    · exact List.length_filter_le _ _
    · exact Nat.le_refl _
  simp
  omega
theorem any_swap {α β : Type} (f : α → β → Bool) (l : List α) (m : List β) : l.any (fun a => m.any (f a)) = m.any (fun b => l.any (fun a => f a b)) := by
  rw [Bool.eq_iff_iff]
  simp only [List.any_eq_true]
  exact ⟨fun ⟨a, ha, b, hb, h⟩ => ⟨b, hb, a, ha, h⟩, fun ⟨b, hb, a, ha, h⟩ => ⟨a, ha, b, hb, h⟩⟩
/- A set and the law's own list of looks side by side. -/
structure Sm (w W : World) (bs : Nat) (v : Value) (gm cm : Nat) (M : List Rd) : Prop where
  st : St W w.heap.size bs v M
  lst : W.ownsRow w.heap.size 25 4 (.slice (some ⟨gm, 0, none⟩) M.length cm) M.length (rows M)
  ne1 : v.ownBlock ≠ some gm
  ne2 : gm ≠ bs
  bel : Below w.heap.size w W
  old : w.heap.size ≤ bs
  pl : ∀ x ∈ M, plain x
theorem Sm.later {w W W2 : World} {bs : Nat} {v : Value} {gm cm : Nat} {M : List Rd} (h : Sm w W bs v gm cm M) (hb : Below W.heap.size W W2) : Sm w W2 bs v gm cm M :=
  ⟨h.st.later hb, own_later h.lst (fun k hk => hb.block k (h.lst.lt k hk).2), h.ne1, h.ne2, h.bel.trans (hb.mono h.bel.size), h.old, h.pl⟩
theorem Sm.at {w W : World} {bs : Nat} {v : Value} {gm cm : Nat} {M : List Rd} (h : Sm w W bs v gm cm M) {i : Nat} {x : Rd} (hx : M[i]? = some x) : At4 W gm (i * 4) x := by
  obtain ⟨g, cap, cur, t, hv, -, hg, -, -, -, hc⟩ := own_row h.lst (Nat.lt_of_le_of_lt (Nat.zero_le i) (List.getElem?_eq_some_iff.1 hx).1)
  injection hv with e1
  injection e1 with e1
  injection e1 with e1
  subst e1
  exact at4_of hg hc hx
/- A list of touches of one's own. -/
structure Ts (base : Nat) (W : World) (v : Value) (X : List Tc) : Prop where
  own : ∃ L, W.ownsRow base 31 16 v X.length L ∧ ∀ i x, X[i]? = some x → ∃ A C, (∀ j u, (#[.string x.tb, .bool x.sh, .int .i64 x.T.k, .bool x.T.b, .int .i64 x.T.n, .string x.T.s, .slice A.pa x.T.m A.pc, .slice A.na x.T.q A.nc, .int .i64 x.U.k, .bool x.U.b, .int .i64 x.U.n, .string x.U.s, .slice C.pa x.U.m C.pc, .slice C.na x.U.q C.nc, .bool x.was, .bool x.is] : Array Value)[j]? = some u → L[i * 16 + j]? = some u) ∧ V.LiesS (fun k => k < W.heap.size ∧ v.ownBlock ≠ some k) W x.T A ∧ V.LiesS (fun k => k < W.heap.size ∧ v.ownBlock ≠ some k) W x.U C
  good : ∀ x ∈ X, x.good
theorem own31_later {w w' : World} {base n : Nat} {v : Value} {L : List Value} (h : w.ownsRow base 31 16 v n L) (hk : ∀ k, v.ownBlock = some k → w'.heap[k]? = w.heap[k]?) : w'.ownsRow base 31 16 v n L := by
  refine ⟨h.1, ?_⟩
  rcases h.2 with hn | ⟨g, cap, cur, hv, hg, hr, rest⟩
  · exact .inl hn
  · exact .inr ⟨g, cap, cur, hv, hg, (hk g (by rw [hv]; rfl)).trans hr, rest⟩
theorem Ts.later {base : Nat} {W W2 : World} {v : Value} {X : List Tc} (h : Ts base W v X) (hb : Below W.heap.size W W2) : Ts base W2 v X := by
  obtain ⟨L, h1, h2⟩ := h.own
  refine ⟨⟨L, own31_later h1 (fun k hk => hb.block k (h1.lt k hk).2), fun i x hi => ?_⟩, h.good⟩
  obtain ⟨A, C, k1, k2, k3⟩ := h2 i x hi
  exact ⟨A, C, k1, (k2.kept (fun k hk => hb.block k hk.1)).up (fun k hk => ⟨Nat.lt_of_lt_of_le hk.1 hb.size, hk.2⟩), (k3.kept (fun k hk => hb.block k hk.1)).up (fun k hk => ⟨Nat.lt_of_lt_of_le hk.1 hb.size, hk.2⟩)⟩
theorem Ts.tl {base : Nat} {W : World} {p : Option Addr} {n c : Nat} {X : List Tc} (h : Ts base W (.slice p n c) X) : Tl W X p := fun h0 => by
  obtain ⟨L, h1, h2⟩ := h.own
  rcases h1.2 with ⟨-, hn⟩ | ⟨g, cap, cur, hv, hb, hg, -, -, hs, h4⟩
  · omega
  · injection hv with e1 e2 e3
    refine ⟨g, 0, e1, lt_of_row hg, fun i x hi => ?_⟩
    obtain ⟨A, C, k1, k2, k3⟩ := h2 i x hi
    refine ⟨A, C, fun j u hu => ?_, k2.up (fun k hk => hk.1), k3.up (fun k hk => hk.1)⟩
    have hL := k1 j u hu
    rw [← h4] at hL
    have hlt := (List.getElem?_eq_some_iff.1 hL).1
    rw [List.getElem?_take_of_lt (by rw [List.length_take] at hlt; omega)] at hL
    rw [show 0 + i * 16 + j = i * 16 + j by omega, cell_of_row W g _ cur 31 _ hg]
    simpa using hL
theorem Ts.app {base : Nat} {W W2 : World} {v v' : Value} {X : List Tc} (h : Ts base W v X) (x : Tc) (hG : x.good) {A C : V.Ad} (hA : V.LiesS (fun k => k < W.heap.size ∧ v.ownBlock ≠ some k) W x.T A) (hC : V.LiesS (fun k => k < W.heap.size ∧ v.ownBlock ≠ some k) W x.U C)
    {L : List Value} {o : Obj} (hL : W.ownsRow base 31 16 v X.length L) (h2 : ∀ i x, X[i]? = some x → ∃ A C, (∀ j u, (#[.string x.tb, .bool x.sh, .int .i64 x.T.k, .bool x.T.b, .int .i64 x.T.n, .string x.T.s, .slice A.pa x.T.m A.pc, .slice A.na x.T.q A.nc, .int .i64 x.U.k, .bool x.U.b, .int .i64 x.U.n, .string x.U.s, .slice C.pa x.U.m C.pc, .slice C.na x.U.q C.nc, .bool x.was, .bool x.is] : Array Value)[j]? = some u → L[i * 16 + j]? = some u) ∧ V.LiesS (fun k => k < W.heap.size ∧ v.ownBlock ≠ some k) W x.T A ∧ V.LiesS (fun k => k < W.heap.size ∧ v.ownBlock ≠ some k) W x.U C)
    (hown : W2.ownsRow base 31 16 v' (X.length + 1) (L ++ (#[.string x.tb, .bool x.sh, .int .i64 x.T.k, .bool x.T.b, .int .i64 x.T.n, .string x.T.s, .slice A.pa x.T.m A.pc, .slice A.na x.T.q A.nc, .int .i64 x.U.k, .bool x.U.b, .int .i64 x.U.n, .string x.U.s, .slice C.pa x.U.m C.pc, .slice C.na x.U.q C.nc, .bool x.was, .bool x.is] : Array Value).toList)) (hgr : (W.alloc o).grownBy W2 v.ownBlock) (hat : v'.ownBlock = v.ownBlock ∨ v'.ownBlock = some (W.heap.size + 1)) : Ts base W2 v' (X ++ [x]) := by
  have hkeep : ∀ k, k < W.heap.size → v.ownBlock ≠ some k → W2.heap[k]? = W.heap[k]? := fun k hk hv => (hgr.block k (by simp; omega) (fun e => hv e.symm)).trans (Below.heap_alloc W o k hk)
  have hsz : W.heap.size ≤ W2.heap.size := Nat.le_trans (by simp) hgr.size
  have himp : ∀ k, (k < W.heap.size ∧ v.ownBlock ≠ some k) → (k < W2.heap.size ∧ v'.ownBlock ≠ some k) := by
    intro k hk
    refine ⟨Nat.lt_of_lt_of_le hk.1 hsz, ?_⟩
    rcases hat with e | e
    · rw [e]; exact hk.2
    · rw [e]; intro e2; injection e2 with e2; have := hk.1; omega
  have hl : (X ++ [x]).length = X.length + 1 := by simp
  refine ⟨⟨_, by rw [hl]; exact hown, fun i y hi => ?_⟩, fun y hy => ?_⟩
  · by_cases hiX : i < X.length
    · rw [List.getElem?_append_left hiX] at hi
      obtain ⟨A1, C1, k1, k2, k3⟩ := h2 i y hi
      refine ⟨A1, C1, fun j u hu => ?_, (k2.kept (fun k hk => hkeep k hk.1 hk.2)).up himp, (k3.kept (fun k hk => hkeep k hk.1 hk.2)).up himp⟩
      have e := k1 j u hu
      rw [List.getElem?_append_left (List.getElem?_eq_some_iff.1 e).1]
      exact e
    · have hlt := (List.getElem?_eq_some_iff.1 hi).1
      obtain rfl : i = X.length := by rw [hl] at hlt; omega
      rw [List.getElem?_append_right (Nat.le_refl _), Nat.sub_self] at hi
      have e : x = y := by simpa using hi
      subst e
      refine ⟨A, C, fun j u hu => ?_, (hA.kept (fun k hk => hkeep k hk.1 hk.2)).up himp, (hC.kept (fun k hk => hkeep k hk.1 hk.2)).up himp⟩
      rw [List.getElem?_append_right (by rw [hL.1]; omega), hL.1, show X.length * 16 + j - X.length * 16 = j by omega]
      simpa using hu
  · rcases List.mem_append.1 hy with hy | hy
    · exact h.good y hy
    · rw [List.mem_singleton] at hy; rw [hy]; exact hG
end Go.Proofs.YtfcenidepkjdcaaDoor
namespace Go.Proofs.YtfcenidepkjdcaaDoor
open Go.RowKit Go.Shelf
theorem step_append_at {P : Program} (w : World) {ops : Array Oper} {o : Oper} {a : Act} {K : Act → World → Prop} {Q : Exit → Act → World → Prop} {E : Prop} (hgd : o.guard = none) (s x : Operand) (t : TypeId)
    (ho : o.op = .call { callee := .builtin .append, args := #[s, x], argTypes := #[t, t] })
    (base : Nat) (e : TypeId) (i : TypeInfo) (z : Value) (size bytes : Nat) (ht : P.underlying t = some (.slice e)) (hi : P.info? e = some i) (hz : i.zero = some z)
    (hsize : i.size = size) (hby : i.bytes = bytes) (hzs : z.cells.size = size) (hsz : 0 < size)
    (v : Value) (n : Nat) (xs : List Value) (hs : a.eval s = v) (hown : w.ownsRow base e size v n xs)
    (ad : Addr) (m c : Nat) (news : List Value) (hx : a.eval x = .slice (some ad) m c) (hl : news.length = m * size) (hnews : ∀ j u, news[j]? = some u → w.cell? (ad.add j) = some u) (h1 : ∀ u ∈ news, u.oneCell' = true)
    (h63 : n + m ≤ maxLen) (hbytes : (n + m) * bytes ≤ 140737488355328) (hbase : base ≤ w.heap.size)
    (h : ∀ p c' w', w'.ownsRow base e size (.slice p (n + m) c') (n + m) (xs ++ news) → w.grownBy w' v.ownBlock → K (a.put o.dst (.slice p (n + m) c')) w') :
    if Region.wanted o (yielded ops a.tmps) = true then Oper.wp P o a w K Q else E := by
  have hw : Region.wanted o (yielded ops a.tmps) = true := by simp [Region.wanted, hgd]
  rw [if_pos hw]
  obtain ⟨v', w', hr, h2, h3, h4, h5⟩ := run_append_own_at (P := P) w base t o.type e i z size bytes ht hi hz hsize hby hzs hsz v n xs hown ad m c news hl hnews h1 h63 hbytes hbase
  obtain ⟨p, c', rfl⟩ := own_len7 h2
  unfold Oper.wp execOp
  simp only [ho, resolve, invoke, builtin, Sem.run_bind, Sem.run_pure, Result.andThen_ok, List.map_toArray, List.map_cons, List.map_nil, hs, hx, hr]
  exact h p c' w' h2 h3
theorem below_grown {B : Nat} {a w w' : World} {row : Option Nat} (h : Below B a w) (hg : w.grownBy w' row) (hB : B ≤ w.heap.size) (hr : ∀ k, row = some k → B ≤ k) : Below B a w' :=
  ⟨hg.os.trans h.os, hg.tape.trans h.tape, hg.output.trans h.output, Nat.le_trans h.size hg.size, fun k hk => (hg.block k (by omega) (fun e => by have := hr k e.symm; omega)).trans (h.block k hk)⟩
theorem own_a (W : World) : (W.alloc (.cells #[] 25)).ownsRow W.heap.size 25 4 (.slice (some ⟨W.heap.size, 0, none⟩) 0 0) 0 [] := World.ownsRow_made W #[] 0 (Nat.le_refl _) (Nat.zero_le _) rfl
theorem own_c (W : World) (o : Obj) : ((W.alloc o).alloc (.cells #[] 25)).ownsRow W.heap.size 25 4 (.slice (some ⟨W.heap.size + 1, 0, none⟩) 0 0) 0 [] := by
  have := World.ownsRow_made (base := W.heap.size) (e := 25) (size := 4) (W.alloc o) #[] 0 (by simp) (Nat.zero_le _) rfl
  simpa using this
theorem news_alloc {W : World} {g : Nat} {L : List Value} (hg : g < W.heap.size) (h : ∀ j u, L[j]? = some u → W.cell? ((⟨g, 0, none⟩ : Addr).add j) = some u) (o : Obj) : ∀ j u, L[j]? = some u → (W.alloc o).cell? ((⟨g, 0, none⟩ : Addr).add j) = some u := fun j u hu => by
  have e := h j u hu
  rw [Addr.add_mid] at e ⊢
  exact (World.cell?_of_block (a := ⟨g, 0 + j, none⟩) (Below.heap_alloc W o g hg)).trans e
theorem below_two (W : World) (o1 o2 : Obj) : Below W.heap.size W ((W.alloc o1).alloc o2) := ((Below.refl _ W).alloc (Nat.le_refl _) _).alloc (by simp) _
theorem below_one (W : World) (o1 : Obj) : Below W.heap.size W (W.alloc o1) := (Below.refl _ W).alloc (Nat.le_refl _) _
theorem below_twod (W : World) (o1 o2 : Obj) : Below W.heap.size W ((W.alloc o1).alloc o2).drew := (below_two W o1 o2).drew
theorem below_oned (W : World) (o1 : Obj) : Below W.heap.size W (W.alloc o1).drew := (below_one W o1).drew
theorem new_b (W : World) (o1 : Obj) (cs : Array Value) : ((W.alloc o1).alloc (.cells cs 25)).heap[W.heap.size + 1]? = some (.cells cs 25 (0, 0)) := by
  have := heap_alloc_new (W.alloc o1) (.cells cs 25)
  simpa using this
theorem new_c (W : World) (cs : Array Value) (o2 : Obj) : ((W.alloc (.cells cs 25)).alloc o2).heap[W.heap.size]? = some (.cells cs 25 (0, 0)) := (Below.heap_alloc _ _ _ (by simp)).trans (heap_alloc_new W _)
theorem own_at4 {W : World} {base gm cm : Nat} {M : List Rd} (h : W.ownsRow base 25 4 (.slice (some ⟨gm, 0, none⟩) M.length cm) M.length (rows M)) {i : Nat} {x : Rd} (hx : M[i]? = some x) : At4 W gm (i * 4) x := by
  obtain ⟨g, cap, cur, t, hv, -, hg, -, -, -, hc⟩ := own_row h (Nat.lt_of_le_of_lt (Nat.zero_le i) (List.getElem?_eq_some_iff.1 hx).1)
  injection hv with e1
  injection e1 with e1
  injection e1 with e1
  subst e1
  exact at4_of hg hc hx
/- The set is changed, the list stays. -/
theorem Sm.keep {w W W2 : World} {bs : Nat} {v v2 : Value} {gm cm : Nat} {M : List Rd} (h : Sm w W bs v gm cm M) (hc : Ch W W2 bs v v2) :
    W2.ownsRow w.heap.size 25 4 (.slice (some ⟨gm, 0, none⟩) M.length cm) M.length (rows M) ∧ v2.ownBlock ≠ some gm ∧ Below w.heap.size w W2 := by
  have hg := (h.lst.lt gm rfl).2
  refine ⟨own_later h.lst (fun k hk => ?_), ?_, ⟨hc.os.trans h.bel.os, hc.tape.trans h.bel.tape, hc.output.trans h.bel.output, Nat.le_trans h.bel.size hc.size, fun k hk => ?_⟩⟩
  · have e : gm = k := by injection hk
    subst e
    exact hc.block gm hg h.ne2 h.ne1
  · rcases hc.at' with e | ⟨g, e, h2⟩
    · rw [e]; exact h.ne1
    · rw [e]; intro e2; injection e2 with e2; omega
  · have ho := h.old
    exact (hc.block k (Nat.lt_of_lt_of_le hk h.bel.size) (by omega) (fun e => by have := (h.st.own.lt k e).1; omega)).trans (h.bel.block k hk)
theorem own_base {W : World} {b b2 : Nat} {v : Value} {l : List Rd} (h : W.ownsRow b 25 4 v l.length (rows l)) (hb : b2 ≤ b) : W.ownsRow b2 25 4 v l.length (rows l) := by
  refine ⟨h.1, ?_⟩
  rcases h.2 with hn | ⟨g, cap, cur, hv, hg, rest⟩
  · exact .inl hn
  · exact .inr ⟨g, cap, cur, hv, Nat.le_trans hb hg, rest⟩
/- A new list beside the set. -/
theorem Sm.fresh {w W W2 : World} {bs : Nat} {v : Value} {p : Option Addr} {c : Nat} {M : List Rd} {k : Nat} (hS : St W w.heap.size bs v M) (ho : w.heap.size ≤ bs) (hb : Below w.heap.size w W) (hbW : Below W.heap.size W W2) (hown : W2.ownsRow W.heap.size 25 4 (.slice p k c) M.length (rows M)) (h0 : 0 < M.length) (hp : ∀ x ∈ M, plain x) :
    ∃ gm, p = some ⟨gm, 0, none⟩ ∧ k = M.length ∧ Sm w W2 bs v gm c M := by
  obtain ⟨g, cap, cur, t, hv, h1, h2, -⟩ := own_row hown h0
  injection hv with e1 e2 e3
  subst e2
  subst e3
  subst e1
  have hbs := lt_of_row hS.row
  refine ⟨g, rfl, rfl, ⟨hS.later hbW, own_base hown hb.size, fun e => ?_, by omega, hb.trans (hbW.mono hb.size), ho, hp⟩⟩
  have := (hS.own.lt g e).2
  omega
end Go.Proofs.YtfcenidepkjdcaaDoor
namespace Go.Proofs.YtfcenidepkjdcaaDoor
open Go.RowKit Go.Shelf
theorem info23 : (Tryd.prog.info? 23).map (·.size) = some 2 := by kernel_rfl
theorem empty_beq (x : ByteArray) : (x.toList == (⟨#[]⟩ : ByteArray).toList) = x.toList.isEmpty := by
  rw [show (⟨#[]⟩ : ByteArray).toList = [] by decide +kernel]
  cases x.toList <;> rfl
theorem lw1_alt (x r : Rd) : lw1 x r = ((x.tb.toList == r.tb.toList) && (x.fl.toList.isEmpty && ((x.lo.toList == (⟨#[]⟩ : ByteArray).toList) && (x.hi.toList == (⟨#[]⟩ : ByteArray).toList)))) := by
  unfold lw1
  rw [empty_beq x.fl]
theorem info31c : (Tryd.prog.info? 31).map (fun i => (i.zero, i.size, i.bytes)) = some (some (.agg #[.string ⟨#[]⟩, .bool false, .int .i64 0, .bool false, .int .i64 0, .string ⟨#[]⟩, .slice none 0 0, .slice none 0 0, .int .i64 0, .bool false, .int .i64 0, .string ⟨#[]⟩, .slice none 0 0, .slice none 0 0, .bool false, .bool false]), 16, 208) := by kernel_rfl
theorem one_th (x : Tc) (A2 C2 : V.Ad) : ∀ u ∈ (#[.string x.tb, .bool x.sh, .int .i64 x.T.k, .bool x.T.b, .int .i64 x.T.n, .string x.T.s, .slice A2.pa x.T.m A2.pc, .slice A2.na x.T.q A2.nc, .int .i64 x.U.k, .bool x.U.b, .int .i64 x.U.n, .string x.U.s, .slice C2.pa x.U.m C2.pc, .slice C2.na x.U.q C2.nc, .bool x.was, .bool x.is] : Array Value).toList, u.oneCell' = true := by
  intro u hu
  simp only [List.mem_cons, List.not_mem_nil, or_false] at hu
  rcases hu with rfl | rfl | rfl | rfl | rfl | rfl | rfl | rfl | rfl | rfl | rfl | rfl | rfl | rfl | rfl | rfl <;> rfl
theorem one_tha (x : Tc) (A2 C2 : V.Ad) : (#[.string x.tb, .bool x.sh, .int .i64 x.T.k, .bool x.T.b, .int .i64 x.T.n, .string x.T.s, .slice A2.pa x.T.m A2.pc, .slice A2.na x.T.q A2.nc, .int .i64 x.U.k, .bool x.U.b, .int .i64 x.U.n, .string x.U.s, .slice C2.pa x.U.m C2.pc, .slice C2.na x.U.q C2.nc, .bool x.was, .bool x.is] : Array Value).all (·.oneCell') = true := all_oneCell_toArray (one_th x A2 C2)
theorem good_cutG {t : V.Tr} (h : V.checkT (V.cutT t 3 4) = 0) : Good (V.cutT t 3 4) := ⟨h, V.small_cut t 3 4, V.slimq_cut t 3 4 (by omega), V.slim_cut t 3 4 (by omega)⟩
theorem okG_iff {t u : V.Tr} (h : okB t u = true) : V.checkT t = 0 ∧ V.checkT u = 0 := by
  unfold okB at h
  simpa using h
theorem own_at4p {W : World} {base n : Nat} {p : Option Addr} {c : Nat} {M : List Rd} (h : W.ownsRow base 25 4 (.slice p n c) M.length (rows M)) {i : Nat} {x : Rd} (hx : M[i]? = some x) : ∃ g, p = some ⟨g, 0, none⟩ ∧ At4 W g (i * 4) x := by
  obtain ⟨g, cap, cur, t, hv, -, hg, -, -, -, hc⟩ := own_row h (Nat.lt_of_le_of_lt (Nat.zero_le i) (List.getElem?_eq_some_iff.1 hx).1)
  injection hv with e1
  exact ⟨g, e1, at4_of hg hc hx⟩
/- Behind the first loop; behind the fourth. -/
def cutA (b : Option Code) : Option Code := match b with
  | some (.seq _ (.seq _ (.seq _ t))) => some t
  | _ => none
end Go.Proofs.YtfcenidepkjdcaaDoor
