/- What the words of a text are (no program here): none but the last is the end; numbers say ints. Parse: any text. What expressions that were parsed look like: kinds, kids and signs as they must be. -/
import Derived.Test.YtfemippjaokcmaaGreatDoorSel
namespace Go.Proofs.YtfemippjaokcmaaGreatDoor
open Go.RowKit Go.Shelf
def NumW (t : List UInt8) : Prop := t ≠ [] ∧ (∀ c ∈ t, digitB (c.toNat : Int) = true) ∧ valL 0 t ≤ 9223372036854775807
theorem fstA_ok {l : List UInt8} {k : Nat} {t : List UInt8} {n : Nat} (h : fstA l = some (k, t, n)) : k ≠ 0 ∧ (k = 3 → NumW t) := by
  cases l with
  | nil => cases h
  | cons c r =>
    rw [fstA] at h
    split at h
    · cases hq : qL (r.drop 1) with
      | none => rw [hq] at h; cases h
      | some x =>
        rw [hq] at h
        cases hx : hexL x.1 with
        | none => simp [hx] at h
        | some u =>
          simp [hx] at h
          obtain ⟨h1, h2, h3⟩ := h
          subst h1
          exact ⟨by decide, fun h => absurd h (by decide)⟩
    · split at h
      · dsimp only at h
        split at h
        · injection h with h; injection h with h1 h
          subst h1
          exact ⟨by decide, fun h => absurd h (by decide)⟩
        · split at h
          · injection h with h; injection h with h1 h
            subst h1
            exact ⟨by decide, fun h => absurd h (by decide)⟩
          · cases h
      · split at h
        · next hin =>
          have hp : 1 ≤ runL digitB (c :: r) := by rw [runL_pos _ _ hin]; omega
          dsimp only at h
          split at h
          · next hn =>
            injection h with h; injection h with h1 h; injection h with h2 h3
            subst h1 h2 h3
            refine ⟨by decide, fun _ => ⟨?_, runL_take digitB (c :: r), ?_⟩⟩
            · intro e
              have := congrArg List.length e
              have hr := runL_le digitB (c :: r)
              rw [List.length_take, List.length_nil] at this
              omega
            · unfold numB at hn
              simp only [Bool.and_eq_true, decide_eq_true_eq] at hn
              exact hn.2
          · cases h
        · split at h
          · cases hq : qL r with
            | none => rw [hq] at h; cases h
            | some x =>
              rw [hq] at h
              injection h with h; injection h with h1 h
              subst h1
              exact ⟨by decide, fun h => absurd h (by decide)⟩
          · split at h
            · cases h
            · injection h with h; injection h with h1 h
              subst h1
              exact ⟨by decide, fun h => absurd h (by decide)⟩
def WdOk (m : Nat) (x : Wd) : Prop := x.k ≠ 0 ∧ x.s.length ≤ m ∧ (x.k = 3 → NumW x.s)
theorem wdsL_ok (m : Nat) : ∀ (f : Nat) (l : List UInt8) (a : Nat), l.length ≤ f → l.length ≤ m → ∀ x ∈ (wdsL l a).1, WdOk m x
  | 0, [], a, _, _ => fun x hx => by rw [wdsL_nil] at hx; cases hx
  | 0, c :: r, _, h, _ => by simp at h
  | f + 1, [], a, _, _ => fun x hx => by rw [wdsL_nil] at hx; cases hx
  | f + 1, c :: r, a, h, hm => by
    simp only [List.length_cons] at h hm
    intro x hx
    by_cases hb : blankB (c.toNat : Int) = true
    · rw [wdsL_blank r a hb] at hx
      exact wdsL_ok m f r (a + 1) (by omega) (by omega) x hx
    · have hb : blankB (c.toNat : Int) = false := by simpa using hb
      cases hf : fstA (c :: r) with
      | none => rw [wdsL_none a hb hf] at hx; cases hx
      | some y =>
        obtain ⟨k, t, n⟩ := y
        have h1 := fstA_le hf
        have h2 := fstA_ok hf
        rw [wdsL_some a hb hf] at hx
        simp only [List.length_cons] at h1
        rcases List.mem_cons.1 hx with rfl | hx
        · exact ⟨h2.1, by simp only; omega, h2.2⟩
        · exact wdsL_ok m f ((c :: r).drop n) (a + n) (by simp only [List.length_drop, List.length_cons]; omega) (by simp only [List.length_drop, List.length_cons]; omega) x hx
theorem p10_digits : ∀ (l : List UInt8) (a : Nat), (∀ c ∈ l, digitB (c.toNat : Int) = true) → valL a l ≤ 9223372036854775807 → Lib.parseUint10 a l = .ok (valL a l)
  | [], _, _, _ => rfl
  | c :: r, a, h, hv => by
    have hc := h c (by simp)
    unfold digitB at hc
    have hc1 : 48 ≤ c.toNat ∧ c.toNat ≤ 57 := by simp at hc; omega
    rw [valL_cons, show stp a c = a * 10 + (c.toNat - 48) from rfl] at hv ⊢
    have hg := valL_ge r (a * 10 + (c.toNat - 48))
    unfold Lib.parseUint10
    rw [if_pos hc1, if_neg (by omega), if_neg (by omega)]
    exact p10_digits r _ (fun d hd => h d (List.mem_cons_of_mem _ hd)) hv
theorem atoi_digits {l : List UInt8} (h : NumW l) : Lib.atoiAll l = .ok (valL 0 l : Int) := by
  obtain ⟨h0, hd, hv⟩ := h
  cases l with
  | nil => exact absurd rfl h0
  | cons c r =>
    have hc := hd c (by simp)
    unfold digitB at hc
    have hc1 : 48 ≤ c.toNat ∧ c.toNat ≤ 57 := by simp at hc; omega
    unfold Lib.atoiAll
    dsimp only
    rw [if_neg (by omega)]
    unfold Lib.parseMag
    rw [if_neg (List.cons_ne_nil c r), p10_digits _ 0 hd hv]
    dsimp only
    have n45 : ¬ c.toNat = 45 := by omega
    simp only [n45, not_false_eq_true, true_and, false_and, if_false]
    rw [if_neg (by omega)]
theorem num_digits {l : List UInt8} (h : NumW l) : Lib.parseIntB 64 l = .ok (valL 0 l : Int) := by
  rw [parse_digits h.1 h.2.1, if_pos h.2.2]
/- The words that were told, and the end. -/
theorem wordsR_form {l : List UInt8} (h : (wordsR l).2.2 = 0) : l.length ≤ 2000 ∧ (wordsR l).1 = (wdsL l 0).1 ++ [⟨0, [], l.length⟩] ∧ (wordsR l).2.1 = 0 := by
  unfold wordsR at h ⊢
  split at h
  · cases h
  · next h1 =>
    rw [if_neg h1]
    split at h
    · exact ⟨by omega, rfl, rfl⟩
    · cases h
theorem wAt_app_left {a : List Wd} {e : Wd} {i : Nat} (h : i < a.length) : wAt (a ++ [e]) i = a[i] := by
  unfold wAt
  rw [List.getD_eq_getElem?_getD, List.getElem?_append_left h, List.getElem?_eq_getElem h]
  rfl
theorem wAt_app_last {a : List Wd} {e : Wd} : wAt (a ++ [e]) a.length = e := by
  unfold wAt
  rw [List.getD_eq_getElem?_getD, List.getElem?_append_right (Nat.le_refl _), Nat.sub_self]
  rfl
theorem wAt_out {a : List Wd} {i : Nat} (h : a.length ≤ i) : wAt a i = ⟨0, [], 0⟩ := by
  unfold wAt
  rw [List.getD_eq_getElem?_getD, List.getElem?_eq_none h]
  rfl
theorem words_ok {l : List UInt8} (h : (wordsR l).2.2 = 0) : Wz (wordsR l).1 ∧ Wl (wordsR l).1 ∧ Wa (wordsR l).1 ∧ 0 < (wordsR l).1.length ∧ (wordsR l).1.length ≤ 2001 := by
  obtain ⟨h1, h2, h3⟩ := wordsR_form h
  have hm := wordsR_many l
  have hok := wdsL_ok 2000 _ l 0 (Nat.le_refl _) h1
  rw [h2] at hm ⊢
  have hlen : ((wdsL l 0).1 ++ [(⟨0, [], l.length⟩ : Wd)]).length = (wdsL l 0).1.length + 1 := by simp
  have hat : ∀ i, i < (wdsL l 0).1.length → WdOk 2000 (wAt ((wdsL l 0).1 ++ [⟨0, [], l.length⟩]) i) := fun i hi => by
    rw [wAt_app_left hi]
    exact hok _ (List.getElem_mem hi)
  have hcase : ∀ i, i < (wdsL l 0).1.length ∨ (wAt ((wdsL l 0).1 ++ [⟨0, [], l.length⟩]) i).k = 0 ∧ (wAt ((wdsL l 0).1 ++ [⟨0, [], l.length⟩]) i).s = [] := by
    intro i
    by_cases hi : i < (wdsL l 0).1.length
    · exact Or.inl hi
    · right
      by_cases hi2 : i = (wdsL l 0).1.length
      · subst hi2
        rw [wAt_app_last]
        exact ⟨rfl, rfl⟩
      · rw [wAt_out (by rw [hlen]; omega)]
        exact ⟨rfl, rfl⟩
  refine ⟨fun i hi => ?_, fun i => ?_, fun i hk => ?_, by omega, by omega⟩
  · rcases hcase i with h4 | h4
    · have h5 := (hat i h4).1
      constructor
      · intro h6; exact absurd h6 h5
      · intro h6; omega
    · constructor
      · intro _
        by_cases h6 : i < (wdsL l 0).1.length
        · exact absurd h4.1 (hat i h6).1
        · omega
      · intro _; exact h4.1
  · rcases hcase i with h4 | h4
    · have h5 := hat i h4
      exact ⟨by have := h5.2.1; omega, fun hk => ⟨_, num_digits (h5.2.2 hk)⟩⟩
    · exact ⟨by rw [h4.2]; simp, fun hk => by rw [h4.1] at hk; cases hk⟩
  · rcases hcase i with h4 | h4
    · exact ⟨_, atoi_digits ((hat i h4).2.2 hk)⟩
    · rw [h4.1] at hk; cases hk
end Go.Proofs.YtfemippjaokcmaaGreatDoor
namespace Go.Proofs.YtfemippjaokcmaaGreatDoor
open Go.RowKit Go.Shelf
attribute [local go_sem] Oper.semAt_some fw0 fw1 fw2
theorem setCell_same {w : World} {z : Nat} {cs : Array Value} {t : TypeId} {fr : Nat × Nat} {i : Nat} {v : Value} (h : w.heap[z]? = some (.cells cs t fr)) (hv : cs[i]? = some v) : w.setCell ⟨z, i, none⟩ v = w := by
  have hi : i < cs.size := (Array.getElem?_eq_some_iff.1 hv).1
  have e : cs.setIfInBounds i v = cs := by
    apply Array.ext
    · simp
    · intro j h1 h2
      rw [Array.getElem_setIfInBounds]
      split
      · next e =>
        subst e
        rw [Array.getElem?_eq_getElem hi] at hv
        injection hv with hv
        exact hv.symm
      · rfl
  have e2 : (w.setCell ⟨z, i, none⟩ v).heap = w.heap := by
    unfold World.setCell
    apply Array.ext
    · simp
    · intro j h1 h2
      rw [Array.getElem_modify]
      split
      · next e3 =>
        subst e3
        rw [Array.getElem?_eq_getElem h2] at h
        injection h with h
        rw [h]
        simp [e]
      · rfl
  have e3 : w.setCell ⟨z, i, none⟩ v = { w with heap := (w.setCell ⟨z, i, none⟩ v).heap } := rfl
  rw [e3, e2]
theorem setCells_same (g : Nat) (t : TypeId) (fr : Nat × Nat) : ∀ (vs : List Value) (o : Nat) (w : World) (cs : Array Value), w.heap[g]? = some (.cells cs t fr) → (∀ j u, vs[j]? = some u → cs[o + j]? = some u) → w.setCells g o vs = w
  | [], _, _, _, _, _ => rfl
  | v :: r, o, w, cs, h, hv => by
    have e := setCell_same (i := o) h (hv 0 v rfl)
    simp only [World.setCells]
    rw [e]
    exact setCells_same g t fr r (o + 1) w cs h (fun j u hu => by
      have := hv (j + 1) u (by simpa using hu)
      rw [show o + 1 + j = o + (j + 1) by omega]
      exact this)
theorem q_pure {P : Program} {o : Oper} {a : Act} {C : World → Prop} {K : Act → Prop} {v : Value} (hrun : ∀ W, (execOp a.eval o).run P W = .ok (.value v) W) (hk : K (a.put o.dst v)) : o.quiet P a C K :=
  ⟨v, fun W _ => by unfold Oper.quietAt; rw [hrun W]; exact ⟨rfl, rfl⟩, hk⟩
theorem q_at {P : Program} {o : Oper} {a : Act} {C : World → Prop} {K : Act → Prop} {v : Value} (hrun : ∀ W, C W → (execOp a.eval o).run P W = .ok (.value v) W) (hk : K (a.put o.dst v)) : o.quiet P a C K :=
  ⟨v, fun W hW => by unfold Oper.quietAt; rw [hrun W hW]; exact ⟨rfl, rfl⟩, hk⟩
/- A store of what stands there already. -/
theorem q_stay {P : Program} {o : Oper} {a : Act} {C : World → Prop} {K : Act → Prop} (ty : TypeId) (x y : Operand) (ho : o.op = .store ty x y) {z : Nat} {cs : Array Value} {t : TypeId} (hx : a.eval x = .pointer (some ⟨z, 0, none⟩)) (hy : a.eval y = .agg cs) (h0 : ∀ W, C W → W.heap[z]? = some (.cells cs t (0, 0))) (hi : (P.info? ty).map (·.size) = some cs.size) (h1 : cs.all (·.oneCell') = true) (hk : K (a.put o.dst undef)) : o.quiet P a C K :=
  ⟨undef, fun W hW => by
    have h := h0 W hW
    have e : W.setCells z 0 cs.toList = W := setCells_same z t (0, 0) cs.toList 0 W cs h (fun j u hu => by rw [Nat.zero_add]; simpa using hu)
    have r := run_storeVar_mid (P := P) W z 0 ty cs (there_of_row h (Nat.le_refl _)) hi h1
    rw [e] at r
    unfold Oper.quietAt execOp
    simp only [ho, hx, hy, Instr.storeAt, Instr.sureAddr, Sem.run_bind, Sem.run_pure, Result.andThen_ok, r]
    exact ⟨rfl, rfl⟩, hk⟩
theorem results_row_tmp2 {P : Program} {fn : Func} {p q r : Tmp} {ty : TypeId} (h : fn.results = #[.cell p ty, .tmp q, .tmp r]) (tmps : Array Value) (w : World) (g : Nat) (t : TypeId) (cs : Array Value) (fr : Nat × Nat) (d : TypeDesc)
    (hp : tmps.getD p undef = .pointer (some ⟨g, 0, none⟩)) (hg : w.heap[g]? = some (.cells cs t fr))
    (hu : P.underlying ty = some d) (hd : (match d with | .struct _ | .array _ _ => true | _ => false) = true) (hi : (P.info? ty).map (·.size) = some cs.size) :
    (results fn tmps).run P w = .ok (.tuple #[.agg cs, tmps.getD q undef, tmps.getD r undef]) w := by
  have hp' : tmps[p]?.getD undef = .pointer (some ⟨g, 0, none⟩) := by simpa using hp
  simp [results, h, hp', asAddr, run_loadVar_row w g t ty cs fr d hg hu hd hi]
/- What Parse says of a text: the statement; or the place and the error. -/
def ps0 : PS := ⟨0, 0, 0, 0, 0⟩
def endP (ws : List Wd) (s : PS) : PS := if (wAt ws s.at').k = 0 then s else failP ws s 120
def parP (l : List UInt8) : PS := endP (wordsR l).1 (stmF (wordsR l).1 ps0).2
def parF (l : List UInt8) : Sm × Nat × Nat :=
  if (wordsR l).2.2 ≠ 0 then (Sm.zero, (wordsR l).2.1, (wordsR l).2.2)
  else if (parP l).er ≠ 0 then (Sm.zero, (parP l).pl, (parP l).er)
  else ((stmF (wordsR l).1 ps0).1, 0, 0)
def GivesP (w : World) (X : Sm × Nat × Nat) (r : Ending) (w' : World) : Prop :=
  ∃ R, r = .returned (.tuple #[.agg (stA R), .int .i64 (X.2.1 : Int), .int .i64 (X.2.2 : Int)]) ∧ Sx w' (fun k => w.heap.size ≤ k) R X.1 ∧ Below w.heap.size w w'
def zeroR : SR := (⟨0, ⟨#[]⟩, ⟨#[]⟩, ⟨0, ⟨#[]⟩, 0, false, 0, ⟨#[]⟩, none, 0, 0, none, 0, 0⟩, .slice none 0 0, .slice none 0 0, ⟨0, ⟨#[]⟩, 0, false, 0, ⟨#[]⟩, none, 0, 0, none, 0, 0⟩, .slice none 0 0, false, false, ⟨#[]⟩, false, 0⟩ : SR)
def zero31 : Array Value := #[.int .i64 0, .string ⟨#[]⟩, .string ⟨#[]⟩, .int .i64 0, .string ⟨#[]⟩, .int .i64 0, .bool false, .int .i64 0, .string ⟨#[]⟩, .slice none 0 0, .slice none 0 0, .slice none 0 0, .slice none 0 0, .slice none 0 0, .slice none 0 0, .int .i64 0, .string ⟨#[]⟩, .int .i64 0, .bool false, .int .i64 0, .string ⟨#[]⟩, .slice none 0 0, .slice none 0 0, .slice none 0 0, .slice none 0 0, .slice none 0 0, .bool false, .bool false, .string ⟨#[]⟩, .bool false, .int .i64 (0)]
set_option maxRecDepth 100000 in
set_option maxHeartbeats 8000000 in
theorem parse_bad (t : ByteArray) (ht : t.size ≤ 10000) (w : World) (he : Ev w) (hb : (wordsR t.data.toList).2.2 ≠ 0) :
    Calls Tryz.prog 22 #[.string t] w (GivesP w (parF t.data.toList)) := by
  unfold parF
  rw [if_pos hb]
  obtain ⟨w1, hw1⟩ : ∃ w1, w.alloc (.cells #[.int .i64 0, .string ⟨#[]⟩, .string ⟨#[]⟩, .int .i64 0, .string ⟨#[]⟩, .int .i64 0, .bool false, .int .i64 0, .string ⟨#[]⟩, .slice none 0 0, .slice none 0 0, .slice none 0 0, .slice none 0 0, .slice none 0 0, .slice none 0 0, .int .i64 0, .string ⟨#[]⟩, .int .i64 0, .bool false, .int .i64 0, .string ⟨#[]⟩, .slice none 0 0, .slice none 0 0, .slice none 0 0, .slice none 0 0, .slice none 0 0, .bool false, .bool false, .string ⟨#[]⟩, .bool false, .int .i64 (0)] 62) = w1 := ⟨_, rfl⟩
  have hb1 : Below w.heap.size w w1 := by rw [← hw1]; exact (Below.refl _ w).alloc (Nat.le_refl _) _
  have hs1 : w1.heap.size = w.heap.size + 1 := by rw [← hw1]; simp
  have rz1 : w1.heap[w.heap.size]? = some (.cells zero31 62 (0, 0)) := by rw [← hw1]; exact heap_alloc_new _ _
  have kw := words_any t ht w1 (he.later hb1).2
  obtain ⟨X, hX⟩ : ∃ X, wordsR t.data.toList = X := ⟨_, rfl⟩
  rw [hX] at kw hb ⊢
  have hb' : ¬ (X.2.2 : Int) = 0 := by omega
  have HH : Hid (Below w.heap.size w w1) := hb1
  clear hX hb1 hb he
  go_enter Tryz.func22, Tryz.ntmps22
  go_wp2_with fail
  refine kw.mono ?_
  rintro q w2 ⟨p, c, rfl, hsl, hb2⟩
  have rz2 := (hb2.block _ (by omega)).trans rz1
  have H2 : Hid (Below w1.heap.size w1 w2 ∧ w2.heap[w.heap.size]? = some (.cells zero31 62 (0, 0))) := ⟨hb2, rz2⟩
  clear kw hsl hb2 rz1 rz2 hw1
  go_wp2_with (first | (refine wpList_put rfl 62 (.tmp 2) (.tmp 18) rfl rfl rfl rfl H2.out.2 rfl info30 (by simp [Value.oneCell']) ?_) | fail)
  exact bodyPost_ret (results_row_tmp2 Tryz.results22 _ _ w.heap.size 62 _ (0, 0) _ rfl (put_row _ H2.out.2 rfl) Tryz.underlying62 rfl info30) rfl ⟨zeroR, rfl, zero_sx _ _ 0, put_below (HH.out.trans (H2.out.1.mono HH.out.size)) _ (Nat.le_refl _) _⟩
def StmC (l : List UInt8) : Prop := (wordsR l).2.2 = 0 → ∀ (w : World) (b : Nat) (p : Option Addr) (c : Nat), Ps w b p c (wordsR l).1 ps0 → Gd (wordsR l).1 ps0 → Ev w → 2 < b → Calls Tryz.prog 54 #[.pointer (some ⟨b, 0, none⟩)] w (GivesS (wordsR l).1 w b p c (stmF (wordsR l).1 ps0))
set_option maxRecDepth 100000 in
set_option maxHeartbeats 8000000 in
theorem parse_no (t : ByteArray) (ht : t.size ≤ 10000) (hs : StmC t.data.toList) (w : World) (he : Ev w) (hb : (wordsR t.data.toList).2.2 = 0) (hq : ¬ (parP t.data.toList).er = 0) :
    Calls Tryz.prog 22 #[.string t] w (GivesP w (parF t.data.toList)) := by
  unfold parF
  rw [if_neg (fun h => h hb), if_pos hq]
  have hst := hs hb
  obtain ⟨hz, hl, ha, h0, hmany⟩ := words_ok hb
  obtain ⟨w1, hw1⟩ : ∃ w1, w.alloc (.cells #[.int .i64 0, .string ⟨#[]⟩, .string ⟨#[]⟩, .int .i64 0, .string ⟨#[]⟩, .int .i64 0, .bool false, .int .i64 0, .string ⟨#[]⟩, .slice none 0 0, .slice none 0 0, .slice none 0 0, .slice none 0 0, .slice none 0 0, .slice none 0 0, .int .i64 0, .string ⟨#[]⟩, .int .i64 0, .bool false, .int .i64 0, .string ⟨#[]⟩, .slice none 0 0, .slice none 0 0, .slice none 0 0, .slice none 0 0, .slice none 0 0, .bool false, .bool false, .string ⟨#[]⟩, .bool false, .int .i64 (0)] 62) = w1 := ⟨_, rfl⟩
  have hb1 : Below w.heap.size w w1 := by rw [← hw1]; exact (Below.refl _ w).alloc (Nat.le_refl _) _
  have hs1 : w1.heap.size = w.heap.size + 1 := by rw [← hw1]; simp
  have rz1 : w1.heap[w.heap.size]? = some (.cells zero31 62 (0, 0)) := by rw [← hw1]; exact heap_alloc_new _ _
  have hw2 := he.lt
  have kw := words_any t ht w1 (he.later hb1).2
  unfold parP at hq ⊢
  obtain ⟨X, hX⟩ : ∃ X, wordsR t.data.toList = X := ⟨_, rfl⟩
  rw [hX] at kw hb hz hl ha h0 hmany hq hst ⊢
  have hb' : (X.2.2 : Int) = 0 := by omega
  have HH : Hid (Below w.heap.size w w1 ∧ Ev w) := ⟨hb1, he⟩
  rw [hb'] at kw
  clear hX hb1 hb he hb'
  obtain ⟨Y, hY⟩ : ∃ Y, stmF X.1 ps0 = Y := ⟨_, rfl⟩
  rw [hY] at hq ⊢
  have g0 : Gd X.1 ps0 := ⟨Or.inl (by decide), fun h => absurd rfl h, Nat.le_refl _⟩
  go_enter Tryz.func22, Tryz.ntmps22
  go_wp2_with fail
  refine kw.mono ?_
  rintro q w2 ⟨p, c, rfl, hsl, hb2⟩
  have s2 := hb2.size
  have rz2 := (hb2.block _ (by omega)).trans rz1
  obtain ⟨w3, hw3⟩ : ∃ w3, w2.alloc (.cells #[.slice p X.1.length c, .int .i64 0, .int .i64 0, .int .i64 0, .int .i64 0, .int .i64 0] 102) = w3 := ⟨_, rfl⟩
  have hb3 : Below w2.heap.size w2 w3 := by rw [← hw3]; exact (Below.refl _ w2).alloc (Nat.le_refl _) _
  have hs3 : w3.heap.size = w2.heap.size + 1 := by rw [← hw3]; simp
  have rp3 : w3.heap[w2.heap.size]? = some (.cells #[.slice p X.1.length c, .int .i64 0, .int .i64 0, .int .i64 0, .int .i64 0, .int .i64 0] 102 (0, 0)) := by rw [← hw3]; exact heap_alloc_new _ _
  have rz3 := (hb3.block _ (by omega)).trans rz2
  have P3 : Ps w3 w2.heap.size p c X.1 ps0 := ⟨rp3, hsl.later hb3, h0, by omega⟩
  have hE3 : Ev w3 := ((HH.out.2.later HH.out.1).later hb2).later hb3
  have ks := hst _ _ _ _ P3 g0 hE3 (by omega)
  rw [hY] at ks
  have H3 : Hid (Below w1.heap.size w1 w3) := hb2.trans (hb3.mono hb2.size)
  have hold := P3.old
  clear kw hsl hb2 rz1 rz2 hb3 rp3 P3 hE3 hw1
  go_wp2_with fail
  refine ks.mono ?_
  rintro q w4 ⟨R, rfl, hx4, hP4, hO4, hG4⟩
  have s4 := hO4.size
  have rz4 := (hO4.block _ (by omega) (by omega)).trans rz3
  obtain ⟨w5, hw5⟩ : ∃ w5, put (w4.alloc (.cells #[.int .i64 0, .string ⟨#[]⟩, .string ⟨#[]⟩, .int .i64 0, .string ⟨#[]⟩, .int .i64 0, .bool false, .int .i64 0, .string ⟨#[]⟩, .slice none 0 0, .slice none 0 0, .slice none 0 0, .slice none 0 0, .slice none 0 0, .slice none 0 0, .int .i64 0, .string ⟨#[]⟩, .int .i64 0, .bool false, .int .i64 0, .string ⟨#[]⟩, .slice none 0 0, .slice none 0 0, .slice none 0 0, .slice none 0 0, .slice none 0 0, .bool false, .bool false, .string ⟨#[]⟩, .bool false, .int .i64 (0)] 62)) w4.heap.size (stA R) = w5 := ⟨_, rfl⟩
  have ra : (w4.alloc (.cells #[.int .i64 0, .string ⟨#[]⟩, .string ⟨#[]⟩, .int .i64 0, .string ⟨#[]⟩, .int .i64 0, .bool false, .int .i64 0, .string ⟨#[]⟩, .slice none 0 0, .slice none 0 0, .slice none 0 0, .slice none 0 0, .slice none 0 0, .slice none 0 0, .int .i64 0, .string ⟨#[]⟩, .int .i64 0, .bool false, .int .i64 0, .string ⟨#[]⟩, .slice none 0 0, .slice none 0 0, .slice none 0 0, .slice none 0 0, .slice none 0 0, .bool false, .bool false, .string ⟨#[]⟩, .bool false, .int .i64 (0)] 62)).heap[w4.heap.size]? = some (.cells zero31 62 (0, 0)) := heap_alloc_new _ _
  have hb5 : Below w4.heap.size w4 w5 := by rw [← hw5]; exact put_below ((Below.refl _ w4).alloc (Nat.le_refl _) _) _ (Nat.le_refl _) _
  have hs5 : w5.heap.size = w4.heap.size + 1 := by rw [← hw5, put_size]; simp
  have rx5 : w5.heap[w4.heap.size]? = some (.cells (stA R) 62 (0, 0)) := by rw [← hw5]; exact put_row _ ra rfl
  have rz5 := (hb5.block _ (by omega)).trans rz4
  have ke := end_any (hP4.later hb5)
  have e0 : (if (wAt X.1 Y.2.at').k = 0 then Y.2 else failP X.1 Y.2 120) = endP X.1 Y.2 := rfl
  rw [e0] at ke
  clear e0
  obtain ⟨Z, hZ⟩ : ∃ Z, endP X.1 Y.2 = Z := ⟨_, rfl⟩
  have HZ : Hid (endP X.1 Y.2 = Z) := hZ
  rw [hZ] at ke hq
  have H5 : Hid (Sx w5 (fun k => w3.heap.size ≤ k) R Y.1 ∧ Onl w2.heap.size w3 w5 ∧ (w4.alloc (.cells #[.int .i64 0, .string ⟨#[]⟩, .string ⟨#[]⟩, .int .i64 0, .string ⟨#[]⟩, .int .i64 0, .bool false, .int .i64 0, .string ⟨#[]⟩, .slice none 0 0, .slice none 0 0, .slice none 0 0, .slice none 0 0, .slice none 0 0, .slice none 0 0, .int .i64 0, .string ⟨#[]⟩, .int .i64 0, .bool false, .int .i64 0, .string ⟨#[]⟩, .slice none 0 0, .slice none 0 0, .slice none 0 0, .slice none 0 0, .slice none 0 0, .bool false, .bool false, .string ⟨#[]⟩, .bool false, .int .i64 (0)] 62)).heap[w4.heap.size]? = some (.cells zero31 62 (0, 0)) ∧ (stA R).all (·.oneCell') = true ∧ w5.heap[w4.heap.size]? = some (.cells (stA R) 62 (0, 0))) := ⟨hx4.since (Since.below hb5), hO4.trans (Onl.of hb5), ra, hx4.ones, rx5⟩
  obtain ⟨A, hA⟩ : ∃ A, stA R = A := ⟨_, rfl⟩
  have HA : Hid (stA R = A) := hA
  have h31 : Hid (A.size = 31) := by
    have h : A.size = 31 := by rw [← hA]; rfl
    exact h
  rw [hA] at H5 hw5 ⊢
  clear ks hx4 hP4 hO4 ra hb5 rx5 rz4 rz3 hZ hA hw3
  go_wp2_with (first | (refine wpList_put rfl 62 (.tmp 9) (.tmp 25) rfl rfl rfl rfl H5.out.2.2.1 h31.out (info30.trans (congrArg some h31.out.symm)) H5.out.2.2.2.1 ?_; rw [hw5]) | fail)
  refine ke.mono ?_
  rintro q w6 ⟨rfl, hP6, hO6⟩
  have s6 := hO6.size
  have rz6 := (hO6.block _ (by omega) (by omega)).trans rz5
  have rx6 := (hO6.block _ (by omega) (by omega)).trans H5.out.2.2.2.2
  have rp6 := hP6.row
  unfold psRow at rp6
  have c4 := cell_of_row w6 _ 4 _ _ _ rp6
  have c5 := cell_of_row w6 _ 5 _ _ _ rp6
  have hO : Hid (Below w.heap.size w w6) := by
    have h1 := HH.out.1
    have h2 := H3.out
    have h3 := H5.out.2.1.trans hO6
    have : Below w.heap.size w w6 := ⟨h3.os.trans (h2.os.trans h1.os), h3.tape.trans (h2.tape.trans h1.tape), h3.output.trans (h2.output.trans h1.output), by omega, fun k hk => (h3.block k (by omega) (by omega)).trans ((h2.block k (by omega)).trans (h1.block k hk))⟩
    exact this
  have H6 : Hid (Sx w6 (fun k => w3.heap.size ≤ k) R Y.1 ∧ w6.heap[w4.heap.size]? = some (.cells A 62 (0, 0)) ∧ w6.heap[w.heap.size]? = some (.cells zero31 62 (0, 0)) ∧ w6.heap[w2.heap.size]? = some (.cells #[.slice p X.1.length c, .int .i64 (Z.at' : Int), .int .i64 (Z.ex : Int), .int .i64 (Z.ne : Int), .int .i64 (Z.er : Int), .int .i64 (Z.pl : Int)] 102 (0, 0))) := ⟨H5.out.1.since (Since.onl hO6 (by omega)), rx6, rz6, rp6⟩
  have hq' : ¬ ((Z.er : Nat) : Int) = 0 := by omega
  clear ke hP6 hO6 rz5 rz6 rx6 rp6 hw5 hq
  go_wp2_with fail
  refine quiet_class (C := fun W => Below w6.heap.size w6 W) (by kernel_rfl) (by kernel_rfl) ((Below.refl _ w6).trans ⟨rfl, rfl, rfl, Nat.le_refl _, fun _ _ => rfl⟩) ?_
  have lz := lt_of_row H6.out.2.2.1
  have lp := lt_of_row H6.out.2.2.2
  refine BigFrame.wpQuiet_want (by rfl) (fun Kq hKq => q_pure (v := .agg zero31) (fun W => ?_) (hKq _ ?_))
  · go_simp
    rfl
  simp only [Act.put, List.setIfInBounds_toArray, List.set_cons_zero, List.set_cons_succ]
  go_big_quiet_step (fail)
  refine BigFrame.wpQuiet_want (by rfl) (fun Kq hKq => q_pure (v := .pointer (some ⟨w2.heap.size, 0, none⟩)) (fun W => ?_) (hKq _ ?_))
  · go_simp
  simp only [Act.put, List.setIfInBounds_toArray, List.set_cons_zero, List.set_cons_succ]
  refine BigFrame.wpQuiet_want (by rfl) (fun Kq hKq => q_pure (v := .pointer (some ⟨w2.heap.size, 5, none⟩)) (fun W => ?_) (hKq _ ?_))
  · go_simp
  simp only [Act.put, List.setIfInBounds_toArray, List.set_cons_zero, List.set_cons_succ]
  refine BigFrame.wpQuiet_want (by rfl) (fun Kq hKq => q_at (v := .int .i64 (Z.pl : Int)) (fun W hW => ?_) (hKq _ ?_))
  · have hc : W.cell? ⟨w2.heap.size, 5, none⟩ = some (.int .i64 (Z.pl : Int)) := (cell_later hW lp).trans (cell_of_row w6 _ 5 _ _ _ H6.out.2.2.2)
    go_simp
  simp only [Act.put, List.setIfInBounds_toArray, List.set_cons_zero, List.set_cons_succ]
  go_big_quiet_step (fail)
  refine BigFrame.wpQuiet_want (by rfl) (fun Kq hKq => q_pure (v := .pointer (some ⟨w2.heap.size, 0, none⟩)) (fun W => ?_) (hKq _ ?_))
  · go_simp
  simp only [Act.put, List.setIfInBounds_toArray, List.set_cons_zero, List.set_cons_succ]
  refine BigFrame.wpQuiet_want (by rfl) (fun Kq hKq => q_pure (v := .pointer (some ⟨w2.heap.size, 4, none⟩)) (fun W => ?_) (hKq _ ?_))
  · go_simp
  simp only [Act.put, List.setIfInBounds_toArray, List.set_cons_zero, List.set_cons_succ]
  refine BigFrame.wpQuiet_want (by rfl) (fun Kq hKq => q_at (v := .int .i64 (Z.er : Int)) (fun W hW => ?_) (hKq _ ?_))
  · have hc : W.cell? ⟨w2.heap.size, 4, none⟩ = some (.int .i64 (Z.er : Int)) := (cell_later hW lp).trans (cell_of_row w6 _ 4 _ _ _ H6.out.2.2.2)
    go_simp
  simp only [Act.put, List.setIfInBounds_toArray, List.set_cons_zero, List.set_cons_succ]
  refine BigFrame.wpQuiet_want (by rfl) (fun Kq hKq => q_stay 62 (.tmp 2) (.tmp 33) rfl rfl rfl (fun W hW => (hW.block _ lz).trans H6.out.2.2.1) info30 (by simp [zero31, Value.oneCell']) (hKq _ ?_))
  simp only [Act.put]
  go_big_quiet_step (fail)
  go_big_quiet_step (fail)
  refine wpQuiet_nil ?_
  intro W hW
  go_wp2
  rw [HZ.out]
  exact bodyPost_ret (results_row_tmp2 Tryz.results22 _ _ w.heap.size 62 _ (0, 0) _ rfl ((hW.block _ lz).trans H6.out.2.2.1) Tryz.underlying62 rfl info30) rfl ⟨zeroR, rfl, zero_sx _ _ 0, hO.out.trans (hW.mono hO.out.size)⟩
set_option maxRecDepth 100000 in
set_option maxHeartbeats 8000000 in
theorem parse_yes (t : ByteArray) (ht : t.size ≤ 10000) (hs : StmC t.data.toList) (w : World) (he : Ev w) (hb : (wordsR t.data.toList).2.2 = 0) (hq : (parP t.data.toList).er = 0) :
    Calls Tryz.prog 22 #[.string t] w (GivesP w (parF t.data.toList)) := by
  unfold parF
  rw [if_neg (fun h => h hb), if_neg (fun h => h hq)]
  have hst := hs hb
  obtain ⟨hz, hl, ha, h0, hmany⟩ := words_ok hb
  obtain ⟨w1, hw1⟩ : ∃ w1, w.alloc (.cells #[.int .i64 0, .string ⟨#[]⟩, .string ⟨#[]⟩, .int .i64 0, .string ⟨#[]⟩, .int .i64 0, .bool false, .int .i64 0, .string ⟨#[]⟩, .slice none 0 0, .slice none 0 0, .slice none 0 0, .slice none 0 0, .slice none 0 0, .slice none 0 0, .int .i64 0, .string ⟨#[]⟩, .int .i64 0, .bool false, .int .i64 0, .string ⟨#[]⟩, .slice none 0 0, .slice none 0 0, .slice none 0 0, .slice none 0 0, .slice none 0 0, .bool false, .bool false, .string ⟨#[]⟩, .bool false, .int .i64 (0)] 62) = w1 := ⟨_, rfl⟩
  have hb1 : Below w.heap.size w w1 := by rw [← hw1]; exact (Below.refl _ w).alloc (Nat.le_refl _) _
  have hs1 : w1.heap.size = w.heap.size + 1 := by rw [← hw1]; simp
  have rz1 : w1.heap[w.heap.size]? = some (.cells zero31 62 (0, 0)) := by rw [← hw1]; exact heap_alloc_new _ _
  have hw2 := he.lt
  have kw := words_any t ht w1 (he.later hb1).2
  unfold parP at hq
  obtain ⟨X, hX⟩ : ∃ X, wordsR t.data.toList = X := ⟨_, rfl⟩
  rw [hX] at kw hb hz hl ha h0 hmany hq hst ⊢
  have hb' : (X.2.2 : Int) = 0 := by omega
  have HH : Hid (Below w.heap.size w w1 ∧ Ev w) := ⟨hb1, he⟩
  rw [hb'] at kw
  clear hX hb1 hb he hb'
  obtain ⟨Y, hY⟩ : ∃ Y, stmF X.1 ps0 = Y := ⟨_, rfl⟩
  rw [hY] at hq ⊢
  have g0 : Gd X.1 ps0 := ⟨Or.inl (by decide), fun h => absurd rfl h, Nat.le_refl _⟩
  go_enter Tryz.func22, Tryz.ntmps22
  go_wp2_with fail
  refine kw.mono ?_
  rintro q w2 ⟨p, c, rfl, hsl, hb2⟩
  have s2 := hb2.size
  have rz2 := (hb2.block _ (by omega)).trans rz1
  obtain ⟨w3, hw3⟩ : ∃ w3, w2.alloc (.cells #[.slice p X.1.length c, .int .i64 0, .int .i64 0, .int .i64 0, .int .i64 0, .int .i64 0] 102) = w3 := ⟨_, rfl⟩
  have hb3 : Below w2.heap.size w2 w3 := by rw [← hw3]; exact (Below.refl _ w2).alloc (Nat.le_refl _) _
  have hs3 : w3.heap.size = w2.heap.size + 1 := by rw [← hw3]; simp
  have rp3 : w3.heap[w2.heap.size]? = some (.cells #[.slice p X.1.length c, .int .i64 0, .int .i64 0, .int .i64 0, .int .i64 0, .int .i64 0] 102 (0, 0)) := by rw [← hw3]; exact heap_alloc_new _ _
  have rz3 := (hb3.block _ (by omega)).trans rz2
  have P3 : Ps w3 w2.heap.size p c X.1 ps0 := ⟨rp3, hsl.later hb3, h0, by omega⟩
  have hE3 : Ev w3 := ((HH.out.2.later HH.out.1).later hb2).later hb3
  have ks := hst _ _ _ _ P3 g0 hE3 (by omega)
  rw [hY] at ks
  have H3 : Hid (Below w1.heap.size w1 w3) := hb2.trans (hb3.mono hb2.size)
  have hold := P3.old
  clear kw hsl hb2 rz1 rz2 hb3 rp3 P3 hE3 hw1
  go_wp2_with fail
  refine ks.mono ?_
  rintro q w4 ⟨R, rfl, hx4, hP4, hO4, hG4⟩
  have s4 := hO4.size
  have rz4 := (hO4.block _ (by omega) (by omega)).trans rz3
  obtain ⟨w5, hw5⟩ : ∃ w5, put (w4.alloc (.cells #[.int .i64 0, .string ⟨#[]⟩, .string ⟨#[]⟩, .int .i64 0, .string ⟨#[]⟩, .int .i64 0, .bool false, .int .i64 0, .string ⟨#[]⟩, .slice none 0 0, .slice none 0 0, .slice none 0 0, .slice none 0 0, .slice none 0 0, .slice none 0 0, .int .i64 0, .string ⟨#[]⟩, .int .i64 0, .bool false, .int .i64 0, .string ⟨#[]⟩, .slice none 0 0, .slice none 0 0, .slice none 0 0, .slice none 0 0, .slice none 0 0, .bool false, .bool false, .string ⟨#[]⟩, .bool false, .int .i64 (0)] 62)) w4.heap.size (stA R) = w5 := ⟨_, rfl⟩
  have ra : (w4.alloc (.cells #[.int .i64 0, .string ⟨#[]⟩, .string ⟨#[]⟩, .int .i64 0, .string ⟨#[]⟩, .int .i64 0, .bool false, .int .i64 0, .string ⟨#[]⟩, .slice none 0 0, .slice none 0 0, .slice none 0 0, .slice none 0 0, .slice none 0 0, .slice none 0 0, .int .i64 0, .string ⟨#[]⟩, .int .i64 0, .bool false, .int .i64 0, .string ⟨#[]⟩, .slice none 0 0, .slice none 0 0, .slice none 0 0, .slice none 0 0, .slice none 0 0, .bool false, .bool false, .string ⟨#[]⟩, .bool false, .int .i64 (0)] 62)).heap[w4.heap.size]? = some (.cells zero31 62 (0, 0)) := heap_alloc_new _ _
  have hb5 : Below w4.heap.size w4 w5 := by rw [← hw5]; exact put_below ((Below.refl _ w4).alloc (Nat.le_refl _) _) _ (Nat.le_refl _) _
  have hs5 : w5.heap.size = w4.heap.size + 1 := by rw [← hw5, put_size]; simp
  have rx5 : w5.heap[w4.heap.size]? = some (.cells (stA R) 62 (0, 0)) := by rw [← hw5]; exact put_row _ ra rfl
  have rz5 := (hb5.block _ (by omega)).trans rz4
  have ke := end_any (hP4.later hb5)
  have e0 : (if (wAt X.1 Y.2.at').k = 0 then Y.2 else failP X.1 Y.2 120) = endP X.1 Y.2 := rfl
  rw [e0] at ke
  clear e0
  obtain ⟨Z, hZ⟩ : ∃ Z, endP X.1 Y.2 = Z := ⟨_, rfl⟩
  have HZ : Hid (endP X.1 Y.2 = Z) := hZ
  rw [hZ] at ke hq
  have H5 : Hid (Sx w5 (fun k => w3.heap.size ≤ k) R Y.1 ∧ Onl w2.heap.size w3 w5 ∧ (w4.alloc (.cells #[.int .i64 0, .string ⟨#[]⟩, .string ⟨#[]⟩, .int .i64 0, .string ⟨#[]⟩, .int .i64 0, .bool false, .int .i64 0, .string ⟨#[]⟩, .slice none 0 0, .slice none 0 0, .slice none 0 0, .slice none 0 0, .slice none 0 0, .slice none 0 0, .int .i64 0, .string ⟨#[]⟩, .int .i64 0, .bool false, .int .i64 0, .string ⟨#[]⟩, .slice none 0 0, .slice none 0 0, .slice none 0 0, .slice none 0 0, .slice none 0 0, .bool false, .bool false, .string ⟨#[]⟩, .bool false, .int .i64 (0)] 62)).heap[w4.heap.size]? = some (.cells zero31 62 (0, 0)) ∧ (stA R).all (·.oneCell') = true ∧ w5.heap[w4.heap.size]? = some (.cells (stA R) 62 (0, 0))) := ⟨hx4.since (Since.below hb5), hO4.trans (Onl.of hb5), ra, hx4.ones, rx5⟩
  obtain ⟨A, hA⟩ : ∃ A, stA R = A := ⟨_, rfl⟩
  have HA : Hid (stA R = A) := hA
  have h31 : Hid (A.size = 31) := by
    have h : A.size = 31 := by rw [← hA]; rfl
    exact h
  rw [hA] at H5 hw5 ⊢
  clear ks hx4 hP4 hO4 ra hb5 rx5 rz4 rz3 hZ hA hw3
  go_wp2_with (first | (refine wpList_put rfl 62 (.tmp 9) (.tmp 25) rfl rfl rfl rfl H5.out.2.2.1 h31.out (info30.trans (congrArg some h31.out.symm)) H5.out.2.2.2.1 ?_; rw [hw5]) | fail)
  refine ke.mono ?_
  rintro q w6 ⟨rfl, hP6, hO6⟩
  have s6 := hO6.size
  have rz6 := (hO6.block _ (by omega) (by omega)).trans rz5
  have rx6 := (hO6.block _ (by omega) (by omega)).trans H5.out.2.2.2.2
  have rp6 := hP6.row
  unfold psRow at rp6
  have c4 := cell_of_row w6 _ 4 _ _ _ rp6
  have c5 := cell_of_row w6 _ 5 _ _ _ rp6
  have hO : Hid (Below w.heap.size w w6) := by
    have h1 := HH.out.1
    have h2 := H3.out
    have h3 := H5.out.2.1.trans hO6
    have : Below w.heap.size w w6 := ⟨h3.os.trans (h2.os.trans h1.os), h3.tape.trans (h2.tape.trans h1.tape), h3.output.trans (h2.output.trans h1.output), by omega, fun k hk => (h3.block k (by omega) (by omega)).trans ((h2.block k (by omega)).trans (h1.block k hk))⟩
    exact this
  have H6 : Hid (Sx w6 (fun k => w3.heap.size ≤ k) R Y.1 ∧ w6.heap[w4.heap.size]? = some (.cells A 62 (0, 0)) ∧ w6.heap[w.heap.size]? = some (.cells zero31 62 (0, 0)) ∧ w6.heap[w2.heap.size]? = some (.cells #[.slice p X.1.length c, .int .i64 (Z.at' : Int), .int .i64 (Z.ex : Int), .int .i64 (Z.ne : Int), .int .i64 (Z.er : Int), .int .i64 (Z.pl : Int)] 102 (0, 0))) := ⟨H5.out.1.since (Since.onl hO6 (by omega)), rx6, rz6, rp6⟩
  have hq' : ((Z.er : Nat) : Int) = 0 := by omega
  clear ke hP6 hO6 rz5 rz6 rx6 rp6 hw5 hq
  go_wp2_with (first | (refine wpList_get rfl 62 (.tmp 9) rfl rfl H6.out.2.1 Tryz.underlying62 rfl (info30.trans (congrArg some h31.out.symm)) ?_; simp only [Act.put, List.setIfInBounds_toArray, List.set_cons_zero, List.set_cons_succ]) | (refine wpList_put rfl 62 (.tmp 2) (.tmp 42) rfl rfl rfl rfl H6.out.2.2.1 h31.out (info30.trans (congrArg some h31.out.symm)) H5.out.2.2.2.1 ?_) | fail)
  refine bodyPost_ret (results_row_tmp2 Tryz.results22 _ _ w.heap.size 62 _ (0, 0) _ rfl (put_row A H6.out.2.2.1 h31.out) Tryz.underlying62 rfl (info30.trans (congrArg some h31.out.symm))) rfl ⟨R, by rw [HA.out]; rfl, ?_, put_below hO.out _ (Nat.le_refl _) _⟩
  exact (H6.out.1.since (Since.put (by omega) _ _)).imp fun k hk _ => by omega
/- Any text. -/
theorem parse_by (t : ByteArray) (ht : t.size ≤ 10000) (hs : StmC t.data.toList) (w : World) (he : Ev w) : Calls Tryz.prog 22 #[.string t] w (GivesP w (parF t.data.toList)) := by
  by_cases hb : (wordsR t.data.toList).2.2 = 0
  · by_cases hq : (parP t.data.toList).er = 0
    · exact parse_yes t ht hs w he hb hq
    · exact parse_no t ht hs w he hb hq
  · exact parse_bad t ht w he hb
/- A statement that begins with DELETE. -/
theorem isP_only {x : Wd} {k : Nat} {a b : List UInt8} (h : isP x k a = true) (hab : a ≠ b) : isP x k b = false := by
  unfold isP at h ⊢
  apply Bool.eq_false_iff.2
  intro h2
  simp only [Bool.and_eq_true, beq_iff_eq, decide_eq_true_eq] at h h2
  exact hab (h.2.symm.trans h2.2)
theorem stm_del {l : List UInt8} (hd : (wordsR l).2.2 = 0 → isP (wAt (wordsR l).1 0) 2 [68, 69, 76, 69, 84, 69] = true) : StmC l := fun hb w b p c H g he h2 => by
  obtain ⟨hz, hl, ha, -, -⟩ := words_ok hb
  have hy := hd hb
  have n0 : isP (wAt (wordsR l).1 ps0.at') 2 [67, 82, 69, 65, 84, 69] = false := isP_only hy (by decide)
  have n1 : isP (wAt (wordsR l).1 ps0.at') 2 [73, 78, 83, 69, 82, 84] = false := isP_only hy (by decide)
  have n2 : isP (wAt (wordsR l).1 ps0.at') 2 [85, 80, 68, 65, 84, 69] = false := isP_only hy (by decide)
  have n3 : isP (wAt (wordsR l).1 ps0.at') 2 [68, 69, 76, 69, 84, 69] = true := hy
  have e : stmF (wordsR l).1 ps0 = delF (wordsR l).1 Sm.new (takeP ps0) := by
    unfold stmF
    rw [n0, if_neg Bool.false_ne_true, n1, if_neg Bool.false_ne_true, n2, if_neg Bool.false_ne_true, n3, if_pos rfl]
  rw [e]
  exact statement_delete H hz hl g ha he h2 n0 n1 n2 n3
end Go.Proofs.YtfemippjaokcmaaGreatDoor
namespace Go.Proofs.YtfemippjaokcmaaGreatDoor
open Go.RowKit Go.Shelf
def sgns : List (List UInt8) := [[79, 82], [65, 78, 68], [61], [60, 62], [60], [60, 61], [62], [62, 61], [43], [45], [42]]
structure EnOk (e : En) : Prop where
  form : (e.k = 1 ∧ e.n = 0) ∨ (e.k = 2 ∧ e.n = 0) ∨ ((e.k = 3 ∨ e.k = 4 ∨ e.k = 5) ∧ e.n = 1 ∧ e.s.data.toList = []) ∨ (e.k = 6 ∧ e.n = 2 ∧ e.s.data.toList ∈ sgns) ∨ e.k = 7 ∨ (e.k = 8 ∧ e.m = e.n)
  few : e.n ≤ 40 ∧ e.m ≤ 40
def Wfd : Nat → Et → Prop
  | 0, _ => True
  | d + 1, t => EnOk (t []) ∧ ∀ i, i < (t []).n → Wfd d (t.sub i)
def Gt (t : Et) : Prop := ∀ d, Wfd d t
theorem Gt.node {e : En} {f : Nat → Et} (h : EnOk e) (k : ∀ i, i < e.n → Gt (f i)) : Gt (Et.node e f) := fun d => by
  cases d with
  | zero => trivial
  | succ d => exact ⟨h, fun i hi => k i hi d⟩
theorem Gt.top {t : Et} (h : Gt t) : EnOk (t []) := (h 1).1
theorem Gt.sub {t : Et} (h : Gt t) {i : Nat} (hi : i < (t []).n) : Gt (t.sub i) := fun d => (h (d + 1)).2 i hi
end Go.Proofs.YtfemippjaokcmaaGreatDoor
