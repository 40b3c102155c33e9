/- Ranges over functions: what a function asks of the body, and leaves. -/
import Derived.Test.YtgjalfcpfgbneaaGreatDoorDk3
import Derived.RangeFuncNested
import Derived.RangeFuncBound
import Derived.RangeFuncCalls
import Derived.RangeFuncLeaves
import Derived.RangeFuncBox
import Derived.OwnWalkIn
import Derived.TacticsInMore
import Derived.LoopNIn
import Derived.LoopIn
import Derived.Sort.MapsRangeIn
namespace Go.Proofs.YtgjalfcpfgbneaaGreatDoor
open Go Go.RowKit
/-- All blocks but those of C are as they were. -/
structure KC (C : Nat → Prop) (A B : World) : Prop where
  os : B.os = A.os
  tape : B.tape = A.tape
  output : B.output = A.output
  size : A.heap.size ≤ B.heap.size
  block : ∀ k, k < A.heap.size → ¬ C k → B.heap[k]? = A.heap[k]?
set_option maxRecDepth 100000 in
theorem KC.of {C : Nat → Prop} {A B : World} (h : Below A.heap.size A B) : KC C A B := ⟨h.os, h.tape, h.output, h.size, fun k hk _ => h.block k hk⟩
set_option maxRecDepth 100000 in
theorem KC.trans {C : Nat → Prop} {A B D : World} (h : KC C A B) (k : KC C B D) : KC C A D :=
  ⟨k.os.trans h.os, k.tape.trans h.tape, k.output.trans h.output, Nat.le_trans h.size k.size, fun i hi hc => (k.block i (Nat.lt_of_lt_of_le hi h.size) hc).trans (h.block i hi hc)⟩
set_option maxRecDepth 100000 in
theorem KC.setCell {C : Nat → Prop} {A B : World} (h : KC C A B) {b o : Nat} (hb : C b) (v : Value) : KC C A (B.setCell ⟨b, o, none⟩ v) :=
  h.trans ⟨rfl, rfl, rfl, by simp [World.setCell], fun k _ hk => heap_setCell_other _ _ _ _ (fun e => hk (e ▸ hb))⟩
set_option maxRecDepth 100000 in
theorem KC.mono {C D : Nat → Prop} {A B : World} (h : KC C A B) (hcd : ∀ k, C k → D k) : KC D A B := ⟨h.os, h.tape, h.output, h.size, fun k hk hd => h.block k hk (fun hc => hd (hcd k hc))⟩
set_option maxRecDepth 100000 in
theorem putObj_below (W : World) {B l : Nat} (o : Obj) (h : B ≤ l) : Below B W (W.putObj l o) := by
  have hg := grownBy_putObj' W l o
  exact ⟨hg.os, hg.tape, hg.output, hg.size, fun k hk => World.putObj_heap_other (by omega)⟩
set_option maxRecDepth 100000 in
theorem putObj_kc {C : Nat → Prop} (W : World) {l : Nat} (o : Obj) (h : C l) : KC C W (W.putObj l o) := by
  have hg := grownBy_putObj' W l o
  exact ⟨hg.os, hg.tape, hg.output, hg.size, fun k _ hk => World.putObj_heap_other (fun e => hk (e ▸ h))⟩
def bPost {α : Type} (C : Nat → Prop) (I : List α → World → Prop) (Ix : Code → List α → World → Prop) (xs : List α) (W : World) : Exit → Act → World → Prop
  | .normal, _, W' => KC C W W' ∧ I xs W'
  | .ret, _, W' => KC C W W' ∧ Ix .ret xs W'
  | .exit id, _, W' => KC C W W' ∧ Ix (.exit id) xs W'
  | .goto t, _, W' => KC C W W' ∧ Ix (.goto t) xs W'
  | _, _, _ => False
set_option maxRecDepth 100000 in
theorem YieldAt.inAny {P : Program} {l m m' : Nat} {args : Array Value} {W : World} {R : Ending → World → Prop} (h : YieldAt Fence.wide m P l args W R) : YieldAt Fence.wide m' P l args W R := by
  obtain ⟨fn, tmps, assign, body, h1, h2, h3⟩ := h
  exact ⟨fn, tmps, assign, body, h1, h2, fun c cs _ => h3 c cs (room_wide _)⟩
def walkO : Obj → Bool
  | .loop _ => true
  | .deferred _ => true
  | .mapIter _ _ _ _ => true
  | _ => false
/-- All blocks are as they were but those of walks (loops, iterators) from n on. -/
structure StW (n : Nat) (U V : World) : Prop where
  os : V.os = U.os
  tape : V.tape = U.tape
  output : V.output = U.output
  size : U.heap.size ≤ V.heap.size
  block : ∀ k, k < U.heap.size → (k < n ∨ ∀ o, U.heap[k]? = some o → walkO o = false) → V.heap[k]? = U.heap[k]?
theorem StW.of {n : Nat} {U V : World} (h : Below U.heap.size U V) : StW n U V := ⟨h.os, h.tape, h.output, h.size, fun k hk _ => h.block k hk⟩
theorem StW.mono {m n : Nat} {U V : World} (h : StW n U V) (hm : m ≤ n) : StW m U V := ⟨h.os, h.tape, h.output, h.size, fun k hk hw => h.block k hk (hw.imp (fun h => by omega) id)⟩
theorem StW.row {n : Nat} {U V : World} (h : StW n U V) {b : Nat} {cs : Array Value} {t : TypeId} (hr : U.heap[b]? = some (.cells cs t (0, 0))) : V.heap[b]? = some (.cells cs t (0, 0)) :=
  (h.block b (Array.getElem?_eq_some_iff.1 hr).1 (Or.inr fun o ho => by rw [hr] at ho; injection ho with ho; subst ho; rfl)).trans hr
theorem StW.cell {n : Nat} {U V : World} (h : StW n U V) {b o : Nat} {v : Value} (hc : U.cell? ⟨b, o, none⟩ = some v) : V.cell? ⟨b, o, none⟩ = some v := by
  rw [← hc]
  refine World.cell?_of_block (a := ⟨b, o, none⟩) (h.block b ?_ (Or.inr fun ob ho => ?_))
  · rcases Nat.lt_or_ge b U.heap.size with k | k
    · exact k
    · unfold World.cell? at hc
      rw [Array.getElem?_eq_none k] at hc
      cases hc
  · unfold World.cell? at hc
    rw [ho] at hc
    cases ob <;> first | rfl | cases hc
theorem putObj_st {n : Nat} (W : World) {l : Nat} {o0 : Obj} (o : Obj) (h : W.heap[l]? = some o0) (hw : walkO o0 = true) (hn : n ≤ l) : StW n W (W.putObj l o) := by
  have hg := grownBy_putObj' W l o
  refine ⟨hg.os, hg.tape, hg.output, hg.size, fun k _ hk => World.putObj_heap_other (fun e => ?_)⟩
  rcases hk with hk | hk
  · omega
  · subst e
    rw [hk _ h] at hw
    cases hw
def SeqW {α : Type} (P : Program) (g : Nat) (lb : Array Value) (En : (Nat → Prop) → α → Array Value → World → Prop) (xs : List α) (A : Nat → Prop) (w : World) : Prop :=
  ∀ (C : Nat → Prop) (l : Nat) (J Jx : List α → World → Prop) (W : World), Below w.heap.size w W → (∀ k, A k → ¬ C k) → (∀ k, C k → k < W.heap.size) →
    (∀ s U V, J s U → StW W.heap.size U V → J s V) → (∀ s U V, Jx s U → StW W.heap.size U V → Jx s V) →
    (∀ pre x ar U, J pre U → pre ++ [x] <+: xs → En C x ar U → YieldAt Fence.wide 0 P l ar U fun e V =>
      (e = .returned (.bool true) ∧ J (pre ++ [x]) V ∧ KC C U V) ∨ (e = .returned (.bool false) ∧ Jx (pre ++ [x]) V ∧ KC C U V)) →
    J [] W →
    CallsIn Fence.wide 0 P g (#[.func (.yield l) #[] #[]] ++ lb) W fun e W' => (∃ v, e = .returned v) ∧ (J xs W' ∨ ∃ pre, pre <+: xs ∧ Jx pre W') ∧ KC C W W'
set_option maxRecDepth 100000 in
theorem range_w {P : Program} {α : Type} {m : Nat} {g : Operand} {ps : Array Tmp} {assign body : Code} {Q : Exit → Act → World → Prop} {a : Act} {w : World}
    {gf : Nat} {lb : Array Value} (hg : a.eval g = .func (.func gf) #[] lb) (eg : ∀ args W, (callFunc gf args).run P W = .ok (.enter gf args) W)
    {En : (Nat → Prop) → α → Array Value → World → Prop} {xs : List α} {A : Nat → Prop} (hseq : SeqW P gf lb En xs A w) (hps : ∀ D x ar W, En D x ar W → ar.size = ps.size)
    (hEn : ∀ (D : Nat → Prop) x ar U V, En D x ar U → KC D U V → En D x ar V)
    (C : Nat → Prop) (hA : ∀ k, A k → k < w.heap.size ∧ ¬ C k) (hC : ∀ k, C k → k < w.heap.size)
    (I : List α → World → Prop) (Ix : Code → List α → World → Prop) (hI : ∀ s U V, I s U → StW w.heap.size U V → I s V) (hIx : ∀ c s U V, Ix c s U → StW w.heap.size U V → Ix c s V) (h0 : I [] w) (a₁ : Array Value → Act)
    (hassign : ∀ (l : Nat) (D : Nat → Prop) (x : α) (ar : Array Value) (W : World) (K : Act → World → Prop), En D x ar W → K (a₁ ar) W →
      assign.wpIn (Fence.wide.inRound l) 0 P (Exit.then K (fun _ _ _ => False)) { tmps := (ps.zip ar).foldl (fun t (p, v) => t.setIfInBounds p v) a.tmps, defers := [] } W)
    (hbody : ∀ (l : Nat) (D : Nat → Prop) (pre : List α) (x : α) (ar : Array Value) (W : World), (∀ k, C k → D k) → En D x ar W → I pre W → pre ++ [x] <+: xs → w.heap.size ≤ W.heap.size → body.wpIn (Fence.wide.inRound l) 0 P (bPost C I Ix (pre ++ [x]) W) (a₁ ar) W)
    (hdone : ∀ (W : World), I xs W → KC (fun k => C k ∨ w.heap.size ≤ k) w W → W.heap[w.heap.size]? = some (.deferred (some [])) → Q .normal { a with defers := { target := .collected w.heap.size, args := #[] } :: a.defers } W)
    (hstop : ∀ (c : Code) (pre : List α) (W : World), pre <+: xs → Ix c pre W → KC (fun k => C k ∨ w.heap.size ≤ k) w W → W.heap[w.heap.size]? = some (.deferred (some [])) → c.wpIn Fence.wide m P Q { a with defers := { target := .collected w.heap.size, args := #[] } :: a.defers } W) :
    (Code.rangeFunc g ps assign body).wpIn Fence.wide m P Q a w := by
  refine wpIn_rangeFunc fun fn hfn => ?_
  obtain ⟨rc, hrc⟩ : ∃ rc : LoopState → Option Code → Loop, rc = fun st pe => { state := st, pending := pe, fn, tmps := a.tmps, params := ps, assign, body, defers := w.heap.size } := ⟨_, rfl⟩
  have he := run_enterLoop_outer (P := P) (w := w) fn a.tmps ps assign body
  obtain ⟨W1, hW1⟩ : ∃ W1, (w.alloc (.deferred (some []))).alloc (.loop (rc .ready none)) = W1 := ⟨_, rfl⟩
  have hl1 : W1.heap[w.heap.size + 1]? = some (.loop (rc .ready none)) := by
    rw [← hW1]
    have h := World.alloc_heap_new (w.alloc (.deferred (some []))) (.loop (rc .ready none))
    rwa [World.size_alloc] at h
  have hk1 : W1.heap[w.heap.size]? = some (.deferred (some [])) := by
    rw [← hW1, Below.heap_alloc _ _ _ (by simp)]; exact World.alloc_heap_new w _
  have hb1 : Below w.heap.size w W1 := by
    rw [← hW1]; exact ((Below.refl _ w).alloc (Nat.le_refl _) _).alloc (by simp) _
  have hs1 : W1.heap.size = w.heap.size + 2 := by rw [← hW1]; simp
  have hrd : ∀ (o : Obj) (U V : World), StW W1.heap.size U V → U.heap[w.heap.size + 1]? = some o → V.heap[w.heap.size + 1]? = some o := fun o U V hb h => (hb.block _ (Array.getElem?_eq_some_iff.1 h).1 (Or.inl (by omega))).trans h
  have hrk : ∀ (o : Obj) (U V : World), StW W1.heap.size U V → U.heap[w.heap.size]? = some o → V.heap[w.heap.size]? = some o := fun o U V hb h => (hb.block _ (Array.getElem?_eq_some_iff.1 h).1 (Or.inl (by omega))).trans h
  have hR := hseq (fun k => C k ∨ k = w.heap.size ∨ k = w.heap.size + 1) (w.heap.size + 1)
    (fun pre U => I pre U ∧ U.heap[w.heap.size + 1]? = some (.loop (rc .ready none)) ∧ U.heap[w.heap.size]? = some (.deferred (some [])))
    (fun pre U => ∃ c, Ix c pre U ∧ U.heap[w.heap.size + 1]? = some (.loop (rc .done (some c))) ∧ U.heap[w.heap.size]? = some (.deferred (some [])))
    W1 hb1 (fun k hk h => by
      obtain ⟨h1, h2⟩ := hA k hk
      rcases h with h | rfl | rfl
      · exact h2 h
      · omega
      · omega) (fun k h => by
      rcases h with h | rfl | rfl
      · have := hC k h; omega
      · omega
      · omega)
    (fun s U V hs hb => ⟨hI s U V hs.1 (hb.mono (by omega)), hrd _ U V hb hs.2.1, hrk _ U V hb hs.2.2⟩)
    (fun s U V hs hb => by
      obtain ⟨c, h1, h2, h3⟩ := hs
      exact ⟨c, hIx c s U V h1 (hb.mono (by omega)), hrd _ U V hb h2, hrk _ U V hb h3⟩) ?round ⟨hI [] w W1 h0 (StW.of hb1), hl1, hk1⟩
  case round =>
    rintro pre x ar W ⟨hi, hl, hk⟩ hpre hen
    have hy := run_yield (P := P) (args := ar) hl (by rw [hrc]; exact hps _ x ar W hen)
    rw [hrc] at hy
    have hlt : w.heap.size + 1 < W.heap.size := (Array.getElem?_eq_some_iff.1 hl).1
    refine ⟨fn, _, assign, body, hy, roundIn_of_wpIn hfn (hassign _ _ x ar W _ hen ?_)⟩
    refine ⟨_, run_beginRound hl (by rw [hrc]), ?_⟩
    obtain ⟨W2, hW2⟩ : ∃ W2, W.putObj (w.heap.size + 1) (.loop { rc .ready none with state := .busy }) = W2 := ⟨_, rfl⟩
    rw [hW2]
    have hl2 : W2.heap[w.heap.size + 1]? = some (.loop { rc .ready none with state := .busy }) := by rw [← hW2]; exact World.putObj_heap_same hlt
    have hk2 : W2.heap[w.heap.size]? = some (.deferred (some [])) := by rw [← hW2]; exact (World.putObj_heap_other (by omega)).trans hk
    have hb2 : StW w.heap.size W W2 := by rw [← hW2]; exact putObj_st W _ hl rfl (by omega)
    have hc2 : KC (fun k => C k ∨ k = w.heap.size ∨ k = w.heap.size + 1) W W2 := by rw [← hW2]; exact putObj_kc W _ (Or.inr (Or.inr rfl))
    refine wpIn_mono (hbody _ _ pre x ar W2 (fun k h => Or.inl h) (hEn _ x ar W W2 hen hc2) (hI _ _ _ hi hb2) hpre (by have := hb2.size; omega)) ?_
    have fin : ∀ (jump : Option Code) (W3 : World), KC C W2 W3 →
        ∃ W4, (Instr.endRound (w.heap.size + 1) jump).run P W3 = .ok (.bool jump.isNone) W4 ∧ W4.heap[w.heap.size + 1]? = some (.loop (rc (if jump.isNone then .ready else .done) jump)) ∧ W4.heap[w.heap.size]? = some (.deferred (some [])) ∧ StW w.heap.size W3 W4 ∧
          KC (fun k => C k ∨ k = w.heap.size ∨ k = w.heap.size + 1) W W4 := fun jump W3 h3 => by
      have hl2s := (Array.getElem?_eq_some_iff.1 hl2).1
      have hk2s := (Array.getElem?_eq_some_iff.1 hk2).1
      have hl3 := (h3.block _ hl2s (fun h => by have := hC _ h; omega)).trans hl2
      have hk3 := (h3.block _ hk2s (fun h => by have := hC _ h; omega)).trans hk2
      have hlt3 := (Array.getElem?_eq_some_iff.1 hl3).1
      have hend := run_endRound (P := P) jump hl3
      refine ⟨_, hend, ?_, ?_, putObj_st W3 _ hl3 rfl (by omega), (hc2.trans (h3.mono (fun k h => Or.inl h))).trans (putObj_kc W3 _ (Or.inr (Or.inr rfl)))⟩
      · rw [World.putObj_heap_same hlt3, hrc]
      · exact (World.putObj_heap_other (by omega)).trans hk3
    rintro e a3 W3 hp
    cases e with
    | normal =>
      obtain ⟨h3, hi3⟩ := hp
      obtain ⟨W4, hr, hl4, hk4, hb4, hc4⟩ := fin none W3 h3
      exact ⟨_, _, hr, .inl ⟨rfl, ⟨hI _ _ _ hi3 hb4, hl4, hk4⟩, hc4⟩⟩
    | ret =>
      obtain ⟨h3, hi3⟩ := hp
      obtain ⟨W4, hr, hl4, hk4, hb4, hc4⟩ := fin (some .ret) W3 h3
      exact ⟨_, _, hr, .inr ⟨rfl, ⟨.ret, hIx _ _ _ _ hi3 hb4, hl4, hk4⟩, hc4⟩⟩
    | exit id =>
      obtain ⟨h3, hi3⟩ := hp
      obtain ⟨W4, hr, hl4, hk4, hb4, hc4⟩ := fin (some (.exit id)) W3 h3
      exact ⟨_, _, hr, .inr ⟨rfl, ⟨.exit id, hIx _ _ _ _ hi3 hb4, hl4, hk4⟩, hc4⟩⟩
    | goto t =>
      obtain ⟨h3, hi3⟩ := hp
      obtain ⟨W4, hr, hl4, hk4, hb4, hc4⟩ := fin (some (.goto t)) W3 h3
      exact ⟨_, _, hr, .inr ⟨rfl, ⟨.goto t, hIx _ _ _ _ hi3 hb4, hl4, hk4⟩, hc4⟩⟩
    | panic ch => exact hp.elim
    | outgrown => exact hp.elim
  refine ⟨w.heap.size + 1, [{ target := .collected w.heap.size, args := #[] }], W1, { target := .fn (.func gf) lb, args := #[.func (.yield (w.heap.size + 1)) #[] #[]] }, W1, gf,
    #[.func (.yield (w.heap.size + 1)) #[] #[]] ++ lb, W1, ?_, ?_, fun _ _ => trivial, ?_, fun h => (by cases h), ?_⟩
  · rw [← hW1, hrc]; exact he
  · simp only [resolve, hg]
    simp [go_sem]
  · simp [invoke, go_sem, eg]
  · refine (callsIn_wide.2 (callsIn_wide.1 hR)).mono ?_
    rintro e W2 ⟨⟨v, rfl⟩, hz, hkc⟩
    have hkc2 : KC (fun k => C k ∨ w.heap.size ≤ k) w W2 := (KC.of hb1).trans (hkc.mono (fun k h => h.elim Or.inl (fun h => Or.inr (by omega))))
    have hp2 : ∀ o, KC (fun k => C k ∨ w.heap.size ≤ k) w (W2.putObj (w.heap.size + 1) o) := fun o => hkc2.trans (putObj_kc W2 o (Or.inr (Nat.le_succ _)))
    rcases hz with ⟨hi, hl, hk⟩ | ⟨pre, hpre, c, hi, hl, hk⟩
    · exact ⟨none, _, by have := run_endLoop (P := P) hl (by rw [hrc]; simp); rw [hrc] at this; exact this, hdone _ (hI _ _ _ hi (putObj_st W2 _ hl rfl (by omega))) (hp2 _) ((World.putObj_heap_other (by omega)).trans hk)⟩
    · exact ⟨some c, _, by have := run_endLoop (P := P) hl (by rw [hrc]; simp); rw [hrc] at this; exact this, hstop c pre _ hpre (hIx _ _ _ _ hi (putObj_st W2 _ hl rfl (by omega))) (hp2 _) ((World.putObj_heap_other (by omega)).trans hk)⟩
end Go.Proofs.YtgjalfcpfgbneaaGreatDoor
