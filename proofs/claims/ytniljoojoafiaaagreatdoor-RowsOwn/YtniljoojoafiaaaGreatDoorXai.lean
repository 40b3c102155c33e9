/- A range over a function whose values lie in memory of their own (a relation En says how): what the function asks of the body, and leaves. A map with one entry (M1): made, looked up, counted, later. -/
import Derived.Test.YtniljoojoafiaaaGreatDoorXah
import Derived.Test.YtniljoojoafiaaaGreatDoorXag
import Derived.Maps.RangeWalk
import Derived.Maps.Views
import Derived.Maps.Keyed
namespace Go.Proofs.YtniljoojoafiaaaGreatDoor
open Go Go.RowKit
def walkO : Obj → Bool
  | .loop _ => true
  | .deferred _ => true
  | .mapIter _ _ _ _ => true
  | _ => false
/-- All blocks are as they were but those of walks (loops, iterators) from n on. -/
structure StW (n : Nat) (U V : World) : Prop where
  os : V.os = U.os
  tape : V.tape = U.tape
  output : V.output = U.output
  size : U.heap.size ≤ V.heap.size
  block : ∀ k, k < U.heap.size → (k < n ∨ ∀ o, U.heap[k]? = some o → walkO o = false) → V.heap[k]? = U.heap[k]?
theorem StW.of {n : Nat} {U V : World} (h : Below U.heap.size U V) : StW n U V := ⟨h.os, h.tape, h.output, h.size, fun k hk _ => h.block k hk⟩
theorem StW.mono {m n : Nat} {U V : World} (h : StW n U V) (hm : m ≤ n) : StW m U V := ⟨h.os, h.tape, h.output, h.size, fun k hk hw => h.block k hk (hw.imp (fun h => by omega) id)⟩
theorem StW.row {n : Nat} {U V : World} (h : StW n U V) {b : Nat} {cs : Array Value} {t : TypeId} (hr : U.heap[b]? = some (.cells cs t (0, 0))) : V.heap[b]? = some (.cells cs t (0, 0)) :=
  (h.block b (Array.getElem?_eq_some_iff.1 hr).1 (Or.inr fun o ho => by rw [hr] at ho; injection ho with ho; subst ho; rfl)).trans hr
theorem StW.cell {n : Nat} {U V : World} (h : StW n U V) {b o : Nat} {v : Value} (hc : U.cell? ⟨b, o, none⟩ = some v) : V.cell? ⟨b, o, none⟩ = some v := by
  rw [← hc]
  refine World.cell?_of_block (a := ⟨b, o, none⟩) (h.block b ?_ (Or.inr fun ob ho => ?_))
  · rcases Nat.lt_or_ge b U.heap.size with k | k
    · exact k
    · unfold World.cell? at hc
      rw [Array.getElem?_eq_none k] at hc
      cases hc
  · unfold World.cell? at hc
    rw [ho] at hc
    cases ob <;> first | rfl | cases hc
theorem putObj_st {n : Nat} (W : World) {l : Nat} {o0 : Obj} (o : Obj) (h : W.heap[l]? = some o0) (hw : walkO o0 = true) (hn : n ≤ l) : StW n W (W.putObj l o) := by
  have hg := grownBy_putObj' W l o
  refine ⟨hg.os, hg.tape, hg.output, hg.size, fun k _ hk => World.putObj_heap_other (fun e => ?_)⟩
  rcases hk with hk | hk
  · omega
  · subst e
    rw [hk _ h] at hw
    cases hw
def SeqW {α : Type} (P : Program) (g : Nat) (lb : Array Value) (En : (Nat → Prop) → α → Array Value → World → Prop) (xs : List α) (A : Nat → Prop) (w : World) : Prop :=
  ∀ (C : Nat → Prop) (l : Nat) (J Jx : List α → World → Prop) (W : World), Below w.heap.size w W → (∀ k, A k → ¬ C k) → (∀ k, C k → k < W.heap.size) →
    (∀ s U V, J s U → StW W.heap.size U V → J s V) → (∀ s U V, Jx s U → StW W.heap.size U V → Jx s V) →
    (∀ pre x ar U, J pre U → pre ++ [x] <+: xs → En C x ar U → YieldAt Fence.wide 0 P l ar U fun e V =>
      (e = .returned (.bool true) ∧ J (pre ++ [x]) V ∧ B.KC C U V) ∨ (e = .returned (.bool false) ∧ Jx (pre ++ [x]) V ∧ B.KC C U V)) →
    J [] W →
    CallsIn Fence.wide 0 P g (#[.func (.yield l) #[] #[]] ++ lb) W fun e W' => (∃ v, e = .returned v) ∧ (J xs W' ∨ ∃ pre, pre <+: xs ∧ Jx pre W') ∧ B.KC C W W'
set_option maxRecDepth 100000 in
theorem range_w {P : Program} {α : Type} {m : Nat} {g : Operand} {ps : Array Tmp} {assign body : Code} {Q : Exit → Act → World → Prop} {a : Act} {w : World}
    {gf : Nat} {lb : Array Value} (hg : a.eval g = .func (.func gf) #[] lb) (eg : ∀ args W, (callFunc gf args).run P W = .ok (.enter gf args) W)
    {En : (Nat → Prop) → α → Array Value → World → Prop} {xs : List α} {A : Nat → Prop} (hseq : SeqW P gf lb En xs A w) (hps : ∀ D x ar W, En D x ar W → ar.size = ps.size)
    (hEn : ∀ (D : Nat → Prop) x ar U V, En D x ar U → B.KC D U V → En D x ar V)
    (C : Nat → Prop) (hA : ∀ k, A k → k < w.heap.size ∧ ¬ C k) (hC : ∀ k, C k → k < w.heap.size)
    (I : List α → World → Prop) (Ix : Code → List α → World → Prop) (hI : ∀ s U V, I s U → StW w.heap.size U V → I s V) (hIx : ∀ c s U V, Ix c s U → StW w.heap.size U V → Ix c s V) (h0 : I [] w) (a₁ : Array Value → Act)
    (hassign : ∀ (l : Nat) (D : Nat → Prop) (x : α) (ar : Array Value) (W : World) (K : Act → World → Prop), En D x ar W → K (a₁ ar) W →
      assign.wpIn (Fence.wide.inRound l) 0 P (Exit.then K (fun _ _ _ => False)) { tmps := (ps.zip ar).foldl (fun t (p, v) => t.setIfInBounds p v) a.tmps, defers := [] } W)
    (hbody : ∀ (l : Nat) (D : Nat → Prop) (pre : List α) (x : α) (ar : Array Value) (W : World), (∀ k, C k → D k) → En D x ar W → I pre W → pre ++ [x] <+: xs → w.heap.size ≤ W.heap.size → body.wpIn (Fence.wide.inRound l) 0 P (B.bPost C I Ix (pre ++ [x]) W) (a₁ ar) W)
    (hdone : ∀ (W : World), I xs W → B.KC (fun k => C k ∨ w.heap.size ≤ k) w W → W.heap[w.heap.size]? = some (.deferred (some [])) → Q .normal { a with defers := { target := .collected w.heap.size, args := #[] } :: a.defers } W)
    (hstop : ∀ (c : Code) (pre : List α) (W : World), pre <+: xs → Ix c pre W → B.KC (fun k => C k ∨ w.heap.size ≤ k) w W → W.heap[w.heap.size]? = some (.deferred (some [])) → c.wpIn Fence.wide m P Q { a with defers := { target := .collected w.heap.size, args := #[] } :: a.defers } W) :
    (Code.rangeFunc g ps assign body).wpIn Fence.wide m P Q a w := by
  refine wpIn_rangeFunc fun fn hfn => ?_
  obtain ⟨rc, hrc⟩ : ∃ rc : LoopState → Option Code → Loop, rc = fun st pe => { state := st, pending := pe, fn, tmps := a.tmps, params := ps, assign, body, defers := w.heap.size } := ⟨_, rfl⟩
  have he := run_enterLoop_outer (P := P) (w := w) fn a.tmps ps assign body
  obtain ⟨W1, hW1⟩ : ∃ W1, (w.alloc (.deferred (some []))).alloc (.loop (rc .ready none)) = W1 := ⟨_, rfl⟩
  have hl1 : W1.heap[w.heap.size + 1]? = some (.loop (rc .ready none)) := by
    rw [← hW1]
    have h := World.alloc_heap_new (w.alloc (.deferred (some []))) (.loop (rc .ready none))
    rwa [World.size_alloc] at h
  have hk1 : W1.heap[w.heap.size]? = some (.deferred (some [])) := by
    rw [← hW1, Below.heap_alloc _ _ _ (by simp)]; exact World.alloc_heap_new w _
  have hb1 : Below w.heap.size w W1 := by
    rw [← hW1]; exact ((Below.refl _ w).alloc (Nat.le_refl _) _).alloc (by simp) _
  have hs1 : W1.heap.size = w.heap.size + 2 := by rw [← hW1]; simp
  have hrd : ∀ (o : Obj) (U V : World), StW W1.heap.size U V → U.heap[w.heap.size + 1]? = some o → V.heap[w.heap.size + 1]? = some o := fun o U V hb h => (hb.block _ (Array.getElem?_eq_some_iff.1 h).1 (Or.inl (by omega))).trans h
  have hrk : ∀ (o : Obj) (U V : World), StW W1.heap.size U V → U.heap[w.heap.size]? = some o → V.heap[w.heap.size]? = some o := fun o U V hb h => (hb.block _ (Array.getElem?_eq_some_iff.1 h).1 (Or.inl (by omega))).trans h
  have hR := hseq (fun k => C k ∨ k = w.heap.size ∨ k = w.heap.size + 1) (w.heap.size + 1)
    (fun pre U => I pre U ∧ U.heap[w.heap.size + 1]? = some (.loop (rc .ready none)) ∧ U.heap[w.heap.size]? = some (.deferred (some [])))
    (fun pre U => ∃ c, Ix c pre U ∧ U.heap[w.heap.size + 1]? = some (.loop (rc .done (some c))) ∧ U.heap[w.heap.size]? = some (.deferred (some [])))
    W1 hb1 (fun k hk h => by
      obtain ⟨h1, h2⟩ := hA k hk
      rcases h with h | rfl | rfl
      · exact h2 h
      · omega
      · omega) (fun k h => by
      rcases h with h | rfl | rfl
      · have := hC k h; omega
      · omega
      · omega)
    (fun s U V hs hb => ⟨hI s U V hs.1 (hb.mono (by omega)), hrd _ U V hb hs.2.1, hrk _ U V hb hs.2.2⟩)
    (fun s U V hs hb => by
      obtain ⟨c, h1, h2, h3⟩ := hs
      exact ⟨c, hIx c s U V h1 (hb.mono (by omega)), hrd _ U V hb h2, hrk _ U V hb h3⟩) ?round ⟨hI [] w W1 h0 (StW.of hb1), hl1, hk1⟩
  case round =>
    rintro pre x ar W ⟨hi, hl, hk⟩ hpre hen
    have hy := run_yield (P := P) (args := ar) hl (by rw [hrc]; exact hps _ x ar W hen)
    rw [hrc] at hy
    have hlt : w.heap.size + 1 < W.heap.size := (Array.getElem?_eq_some_iff.1 hl).1
    refine ⟨fn, _, assign, body, hy, roundIn_of_wpIn hfn (hassign _ _ x ar W _ hen ?_)⟩
    refine ⟨_, run_beginRound hl (by rw [hrc]), ?_⟩
    obtain ⟨W2, hW2⟩ : ∃ W2, W.putObj (w.heap.size + 1) (.loop { rc .ready none with state := .busy }) = W2 := ⟨_, rfl⟩
    rw [hW2]
    have hl2 : W2.heap[w.heap.size + 1]? = some (.loop { rc .ready none with state := .busy }) := by rw [← hW2]; exact World.putObj_heap_same hlt
    have hk2 : W2.heap[w.heap.size]? = some (.deferred (some [])) := by rw [← hW2]; exact (World.putObj_heap_other (by omega)).trans hk
    have hb2 : StW w.heap.size W W2 := by rw [← hW2]; exact putObj_st W _ hl rfl (by omega)
    have hc2 : B.KC (fun k => C k ∨ k = w.heap.size ∨ k = w.heap.size + 1) W W2 := by rw [← hW2]; exact B.putObj_kc W _ (Or.inr (Or.inr rfl))
    refine wpIn_mono (hbody _ _ pre x ar W2 (fun k h => Or.inl h) (hEn _ x ar W W2 hen hc2) (hI _ _ _ hi hb2) hpre (by have := hb2.size; omega)) ?_
    have fin : ∀ (jump : Option Code) (W3 : World), B.KC C W2 W3 →
        ∃ W4, (Instr.endRound (w.heap.size + 1) jump).run P W3 = .ok (.bool jump.isNone) W4 ∧ W4.heap[w.heap.size + 1]? = some (.loop (rc (if jump.isNone then .ready else .done) jump)) ∧ W4.heap[w.heap.size]? = some (.deferred (some [])) ∧ StW w.heap.size W3 W4 ∧
          B.KC (fun k => C k ∨ k = w.heap.size ∨ k = w.heap.size + 1) W W4 := fun jump W3 h3 => by
      have hl2s := (Array.getElem?_eq_some_iff.1 hl2).1
      have hk2s := (Array.getElem?_eq_some_iff.1 hk2).1
      have hl3 := (h3.block _ hl2s (fun h => by have := hC _ h; omega)).trans hl2
      have hk3 := (h3.block _ hk2s (fun h => by have := hC _ h; omega)).trans hk2
      have hlt3 := (Array.getElem?_eq_some_iff.1 hl3).1
      have hend := run_endRound (P := P) jump hl3
      refine ⟨_, hend, ?_, ?_, putObj_st W3 _ hl3 rfl (by omega), (hc2.trans (h3.mono (fun k h => Or.inl h))).trans (B.putObj_kc W3 _ (Or.inr (Or.inr rfl)))⟩
      · rw [World.putObj_heap_same hlt3, hrc]
      · exact (World.putObj_heap_other (by omega)).trans hk3
    rintro e a3 W3 hp
    cases e with
    | normal =>
      obtain ⟨h3, hi3⟩ := hp
      obtain ⟨W4, hr, hl4, hk4, hb4, hc4⟩ := fin none W3 h3
      exact ⟨_, _, hr, .inl ⟨rfl, ⟨hI _ _ _ hi3 hb4, hl4, hk4⟩, hc4⟩⟩
    | ret =>
      obtain ⟨h3, hi3⟩ := hp
      obtain ⟨W4, hr, hl4, hk4, hb4, hc4⟩ := fin (some .ret) W3 h3
      exact ⟨_, _, hr, .inr ⟨rfl, ⟨.ret, hIx _ _ _ _ hi3 hb4, hl4, hk4⟩, hc4⟩⟩
    | exit id =>
      obtain ⟨h3, hi3⟩ := hp
      obtain ⟨W4, hr, hl4, hk4, hb4, hc4⟩ := fin (some (.exit id)) W3 h3
      exact ⟨_, _, hr, .inr ⟨rfl, ⟨.exit id, hIx _ _ _ _ hi3 hb4, hl4, hk4⟩, hc4⟩⟩
    | goto t =>
      obtain ⟨h3, hi3⟩ := hp
      obtain ⟨W4, hr, hl4, hk4, hb4, hc4⟩ := fin (some (.goto t)) W3 h3
      exact ⟨_, _, hr, .inr ⟨rfl, ⟨.goto t, hIx _ _ _ _ hi3 hb4, hl4, hk4⟩, hc4⟩⟩
    | panic ch => exact hp.elim
    | outgrown => exact hp.elim
  refine ⟨w.heap.size + 1, [{ target := .collected w.heap.size, args := #[] }], W1, { target := .fn (.func gf) lb, args := #[.func (.yield (w.heap.size + 1)) #[] #[]] }, W1, gf,
    #[.func (.yield (w.heap.size + 1)) #[] #[]] ++ lb, W1, ?_, ?_, fun _ _ => trivial, ?_, fun h => (by cases h), ?_⟩
  · rw [← hW1, hrc]; exact he
  · simp only [resolve, hg]
    simp [go_sem]
  · simp [invoke, go_sem, eg]
  · refine (callsIn_wide.2 (callsIn_wide.1 hR)).mono ?_
    rintro e W2 ⟨⟨v, rfl⟩, hz, hkc⟩
    have hkc2 : B.KC (fun k => C k ∨ w.heap.size ≤ k) w W2 := (B.KC.of hb1).trans (hkc.mono (fun k h => h.elim Or.inl (fun h => Or.inr (by omega))))
    have hp2 : ∀ o, B.KC (fun k => C k ∨ w.heap.size ≤ k) w (W2.putObj (w.heap.size + 1) o) := fun o => hkc2.trans (B.putObj_kc W2 o (Or.inr (Nat.le_succ _)))
    rcases hz with ⟨hi, hl, hk⟩ | ⟨pre, hpre, c, hi, hl, hk⟩
    · exact ⟨none, _, by have := run_endLoop (P := P) hl (by rw [hrc]; simp); rw [hrc] at this; exact this, hdone _ (hI _ _ _ hi (putObj_st W2 _ hl rfl (by omega))) (hp2 _) ((World.putObj_heap_other (by omega)).trans hk)⟩
    · exact ⟨some c, _, by have := run_endLoop (P := P) hl (by rw [hrc]; simp); rw [hrc] at this; exact this, hstop c pre _ hpre (hIx _ _ _ _ hi (putObj_st W2 _ hl rfl (by omega))) (hp2 _) ((World.putObj_heap_other (by omega)).trans hk)⟩
end Go.Proofs.YtniljoojoafiaaaGreatDoor
namespace Go.Proofs.YtniljoojoafiaaaGreatDoor
open Go.RowKit Go.Shelf
attribute [local go_sem] Oper.semAt_some
def heldR (v : Value) : Option (DataW Value × List MemPlace) := some (.held v, [])
def D1 (kl : Lit) (v : Value) : DataW Value := (DataW.map []).put kl (.held v)
def M1 (K : TypeId) (w : World) (m : Nat) (kl : Lit) (v : Value) : Prop := w.ownsMap Tryz.prog K heldR m 1 (D1 kl v)
theorem M1.later {K : TypeId} {w w' : World} {m : Nat} {kl : Lit} {v : Value} (h : M1 K w m kl v) (hb : Below w.heap.size w w') : M1 K w' m kl v :=
  World.ownsMap.kept h (row := none) ⟨hb.os, hb.tape, hb.output, hb.size, fun k hk _ => hb.block k hk⟩ (by simp)
theorem M1.lt {K : TypeId} {w : World} {m : Nat} {kl : Lit} {v : Value} (h : M1 K w m kl v) : m < w.heap.size := World.ownsMap.lt h
theorem M1.same {K : TypeId} {w w' : World} {m : Nat} {kl : Lit} {v : Value} (h : M1 K w m kl v) (e : w'.heap[m]? = w.heap[m]?) : M1 K w' m kl v := by
  obtain ⟨es, clock, hb, F, hs, hD⟩ := h
  exact ⟨es, clock, e.trans hb, F, hs, hD⟩
theorem M1.make {K t e : TypeId} {w : World} {m : Nat} (hm : w.ownsMap Tryz.prog K heldR m 0 (.map [])) (Kd : Maps.Keyed Tryz.prog K) (ht : Tryz.prog.underlying t = some (.map K e)) {key : Value} {kl : Lit} (hk : keyOf Tryz.prog K key = some kl) (v : Value) :
    ∃ w', (Instr.mapUpdate t (.map (some m)) key v).run Tryz.prog w = .ok () w' ∧ M1 K w' m kl v ∧ w.grownBy w' (some m) :=
  hm.update Kd ht (by decide) hk (R := heldR) (val := v) rfl
theorem D1_isMap (kl : Lit) (v : Value) : Maps.IsMap (D1 kl v) := ⟨_, rfl⟩
theorem D1_at {kl : Lit} (h : WideAt.IsKeyLit kl) (v : Value) (z : DataW Value) : (D1 kl v).atKey kl z = .held v := Maps.atKey_put_same ⟨_, rfl⟩ h _ _
theorem D1_has {kl : Lit} (h : WideAt.IsKeyLit kl) (v : Value) : Maps.has (D1 kl v) kl = true := Maps.has_put_same ⟨_, rfl⟩ h _
theorem D1_no {kl k : Lit} (h : k ≠ kl) (v : Value) : Maps.has (D1 kl v) k = false := by
  unfold D1
  rw [Maps.has_put_other h]
  rfl
theorem D1_size (kl : Lit) (v : Value) : Maps.size (D1 kl v) = 1 := rfl
theorem M1.look {K t e : TypeId} {w : World} {m : Nat} {kl : Lit} {v z : Value} (h : M1 K w m kl v) (Kd : Maps.Keyed Tryz.prog K) (ht : Tryz.prog.underlying t = some (.map K e)) (hz : (zeroValue e).run Tryz.prog w = .ok z w) {key : Value} (hk : keyOf Tryz.prog K key = some kl) (hl : WideAt.IsKeyLit kl) :
    (Instr.lookup t (.map (some m)) key false).run Tryz.prog w = .ok v w := by
  obtain ⟨x, ps, hr, hv⟩ := World.ownsMap.lookup h Kd ht hz (R := heldR) (zd := .held z) (zp := []) rfl hk
  rw [D1_at hl] at hv
  have e : x = v := by
    simp only [heldR, Option.some.injEq, Prod.mk.injEq, DataW.held.injEq] at hv
    exact hv.1
  rw [hr, e]
theorem M1.look2 {K t e : TypeId} {w : World} {m : Nat} {kl : Lit} {v z : Value} (h : M1 K w m kl v) (Kd : Maps.Keyed Tryz.prog K) (ht : Tryz.prog.underlying t = some (.map K e)) (hz : (zeroValue e).run Tryz.prog w = .ok z w) {key : Value} (hk : keyOf Tryz.prog K key = some kl) (hl : WideAt.IsKeyLit kl) :
    (Instr.lookup t (.map (some m)) key true).run Tryz.prog w = .ok (.tuple #[v, .bool true]) w := by
  obtain ⟨x, ps, hr, hv⟩ := World.ownsMap.look_ok h Kd ht hz (R := heldR) (zd := .held z) (zp := []) rfl hk
  rw [D1_at hl] at hv
  have e : x = v := by
    simp only [heldR, Option.some.injEq, Prod.mk.injEq, DataW.held.injEq] at hv
    exact hv.1
  rw [hr, e, D1_has hl]
theorem M1.len {K t e : TypeId} {w : World} {m : Nat} {kl : Lit} {v : Value} (h : M1 K w m kl v) (ht : Tryz.prog.underlying t = some (.map K e)) (ty : TypeId) : (Builtin.len_ #[t] ty #[.map (some m)]).run Tryz.prog w = .ok (.int .i64 1) w := by
  have := World.ownsMap.len h ht ty
  rw [D1_size] at this
  exact this
theorem cells_row {w : World} {z : Nat} {cs : Array Value} {t : TypeId} (h : w.heap[z]? = some (.cells cs t (0, 0))) (vs : Array Value) (hn : vs.size = cs.size) (h1 : vs.all (·.oneCell') = true) :
    (storeCells ⟨z, 0, none⟩ vs.toList 0).run Tryz.prog w = .ok () (put w z vs) := by
  have ht := there_of_row h (n := vs.size) (by omega)
  have := run_storeCells_cells (P := Tryz.prog) z 0 vs.toList 0 w (fun j hj => by simpa using (ht j (by simpa using hj)).1) (fun j hj => by simpa using (ht j (by simpa using hj)).2) (fun v hv => (Array.all_eq_true_iff_forall_mem.1 h1) v (by simpa using hv))
  simp only [Nat.add_zero] at this
  exact this
/- A value's blocks are there: so what is new, or written elsewhere, leaves it. -/
theorem names_lt {S : Nat → Prop} {w : World} {q : Nat} {g : Nat → ByteArray} {na : Option Addr} {nc : Nat} (h : V.NamesS S w q g na nc) : V.NamesS (fun k => S k ∧ k < w.heap.size) w q g na nc := by
  obtain ⟨h1, h2, h3, h4⟩ := h
  refine ⟨h1, h2, h3, fun h0 => ?_⟩
  obtain ⟨b, o, h5, h7, h6⟩ := h4 h0
  exact ⟨b, o, h5, ⟨h7, V.block_lt (h6 0 h0)⟩, h6⟩
theorem lies_lt {S : Nat → Prop} {w : World} {t : V.Tr} {x : V.Ad} (h : V.LiesS S w t x) : V.LiesS (fun k => S k ∧ k < w.heap.size) w t x := by
  induction h with
  | mk A hk hn hs hm hp _ hq ih =>
    refine .mk A hk hn hs hm (fun h0 => ?_) ih (names_lt hq)
    obtain ⟨b, o, h1, h3, h2⟩ := hp h0
    exact ⟨b, o, h1, ⟨h3, V.block_lt (h2 0 h0).c0⟩, h2⟩
theorem lies_keep {S : Nat → Prop} {w w' : World} {t : V.Tr} {x : V.Ad} (h : V.LiesS S w t x) (hk : ∀ k, S k → k < w.heap.size → w'.heap[k]? = w.heap[k]?) : V.LiesS S w' t x :=
  V.LiesS.up (fun _ h => h.1) (V.LiesS.kept (fun k h => hk k h.1 h.2) (lies_lt h))
theorem lies_later {S : Nat → Prop} {w w' : World} {t : V.Tr} {x : V.Ad} (h : V.LiesS S w t x) (hb : Below w.heap.size w w') : V.LiesS S w' t x := lies_keep h fun k _ hk => hb.block k hk
/- A document that lies in blocks of S. -/
def LyO (S : Nat → Prop) (d v : Int) (t : V.Tr) (u : Value) (W : World) : Prop := ∃ A, u = .agg (rwA d v t A) ∧ V.LiesS S W t A
theorem LyO.later {S : Nat → Prop} {d v : Int} {t : V.Tr} : ∀ u W W', LyO S d v t u W → Below W.heap.size W W' → LyO S d v t u W' := fun _ _ _ ⟨A, h1, h2⟩ hb => ⟨A, h1, lies_later h2 hb⟩
end Go.Proofs.YtniljoojoafiaaaGreatDoor
