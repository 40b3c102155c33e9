/- A range over a function whose body never leaves it: where the function is called with the loop's yield, each call of which plays one round, and returns, the statement is done. The function may keep blocks of its own that it writes between two rounds. -/
import Derived.RangeFuncNested
import Derived.RangeFuncLeaves
import Derived.RangeFuncBox
import Derived.WalkKit
namespace Go.Proofs.YtgjalfcpfgbneaaGreatDoor.F
open Go Go.RowKit
/-- A round's body ends off its end, and so. -/
def offEnd (K : World → Prop) : Exit → Act → World → Prop
  | .normal, _, W => K W
  | _, _, _ => False
/-- The two blocks of the loop's own lie as they lay. -/
def Book (d : Nat) (A B : World) : Prop := ∀ k, d ≤ k → k < d + 2 → B.heap[k]? = A.heap[k]?
theorem Book.refl (d : Nat) (A : World) : Book d A A := fun _ _ _ => rfl
theorem Book.trans {d : Nat} {A B C : World} (h : Book d A B) (k : Book d B C) : Book d A C := fun i h1 h2 => (k i h1 h2).trans (h i h1 h2)
theorem range_law {P : Program} {α : Type} {n : Nat} {g : Operand} {ps : Array Tmp} {assign body : Code} {Q : Exit → Act → World → Prop} {a : Act} {w : World}
    {gf : Nat} {lb : Array Value} (hg : a.eval g = .func (.func gf) #[] lb) (eg : ∀ args W, (callFunc gf args).run P W = .ok (.enter gf args) W)
    (encs : α → Array Value) (hps : ∀ x, (encs x).size = ps.size) (Z : World → Prop)
    (hcall : ∀ Rd : World → Prop, (∀ A B, Rd A → Book w.heap.size A B → Rd B) →
      (∀ (x : α) (W : World) (R : World → Prop), Rd W →
        assign.wpIn (Fence.wide.inRound (w.heap.size + 1)) (n - 1 - 1) P (Exit.then (fun a' Wa => Book w.heap.size W Wa ∧ ∀ o,
          body.wpIn (Fence.wide.inRound (w.heap.size + 1)) (n - 1 - 1) P (offEnd fun W3 => Book w.heap.size (Wa.putObj (w.heap.size + 1) o) W3 ∧ ∀ o', Rd (W3.putObj (w.heap.size + 1) o') → R (W3.putObj (w.heap.size + 1) o'))
            a' (Wa.putObj (w.heap.size + 1) o)) (fun _ _ _ => False)) { tmps := (ps.zip (encs x)).foldl (fun t (p, v) => t.setIfInBounds p v) a.tmps, defers := [] } W →
        YieldAt Fence.wide (n - 1 - 1) P (w.heap.size + 1) (encs x) W fun e W' => e = .returned (.bool true) ∧ Rd W' ∧ R W') →
      ∀ W1, Rd W1 → Below w.heap.size w W1 → W1.heap.size = w.heap.size + 2 →
        CallsIn Fence.wide (n - 1) P gf (#[.func (.yield (w.heap.size + 1)) #[] #[]] ++ lb) W1 fun e W' => (∃ v, e = .returned v) ∧ Rd W' ∧ Z W')
    (hdone : ∀ W o, Z W → W.heap[w.heap.size]? = some (.deferred (some [])) → Q .normal { a with defers := { target := .collected w.heap.size, args := #[] } :: a.defers } (W.putObj (w.heap.size + 1) o)) :
    (Code.rangeFunc g ps assign body).wpIn Fence.wide n P Q a w := by
  refine wpIn_rangeFunc fun fn hfn => ?_
  obtain ⟨rc, hrc⟩ : ∃ rc : LoopState → Loop, rc = fun st => { state := st, pending := none, fn, tmps := a.tmps, params := ps, assign, body, defers := w.heap.size } := ⟨_, rfl⟩
  have he := run_enterLoop_outer (P := P) (w := w) fn a.tmps ps assign body
  obtain ⟨W1, hW1⟩ : ∃ W1, (w.alloc (.deferred (some []))).alloc (.loop (rc .ready)) = W1 := ⟨_, rfl⟩
  have hl1 : W1.heap[w.heap.size + 1]? = some (.loop (rc .ready)) := by
    rw [← hW1]
    have h := World.alloc_heap_new (w.alloc (.deferred (some []))) (.loop (rc .ready))
    rwa [World.size_alloc] at h
  have hk1 : W1.heap[w.heap.size]? = some (.deferred (some [])) := by
    rw [← hW1, Below.heap_alloc _ _ _ (by simp)]; exact World.alloc_heap_new w _
  have hb1 : Below w.heap.size w W1 := by
    rw [← hW1]; exact ((Below.refl _ w).alloc (Nat.le_refl _) _).alloc (by simp) _
  have hs1 : W1.heap.size = w.heap.size + 2 := by rw [← hW1]; simp
  have hR := hcall (fun A => A.heap[w.heap.size + 1]? = some (.loop (rc .ready)) ∧ A.heap[w.heap.size]? = some (.deferred (some [])))
    (fun A B hA hAB => ⟨(hAB _ (by omega) (by omega)).trans hA.1, (hAB _ (by omega) (by omega)).trans hA.2⟩) ?round W1 ⟨hl1, hk1⟩ hb1 hs1
  case round =>
    rintro x W R ⟨hl, hk⟩ hw
    have hy := run_yield (P := P) (args := encs x) hl (by rw [hrc]; exact hps x)
    rw [hrc] at hy
    refine ⟨fn, _, assign, body, hy, roundIn_of_wpIn hfn (wpIn_mono hw ?_)⟩
    intro e a' Wa hp
    cases e with
    | normal =>
      obtain ⟨hsame, hbody⟩ := hp
      have hla := (hsame (w.heap.size + 1) (by omega) (by omega)).trans hl
      have hka := (hsame w.heap.size (by omega) (by omega)).trans hk
      have hlt : w.heap.size + 1 < Wa.heap.size := (Array.getElem?_eq_some_iff.1 hla).1
      refine ⟨_, run_beginRound hla (by rw [hrc]), wpIn_mono (hbody _) ?_⟩
      intro e3 a3 W3 hp3
      cases e3 with
      | normal =>
        obtain ⟨hsame3, hfin⟩ := hp3
        have hl3 := (hsame3 (w.heap.size + 1) (by omega) (by omega)).trans (World.putObj_heap_same hlt)
        have hk3 := (hsame3 w.heap.size (by omega) (by omega)).trans ((World.putObj_heap_other (by omega)).trans hka)
        have hlt3 : w.heap.size + 1 < W3.heap.size := (Array.getElem?_eq_some_iff.1 hl3).1
        have hend := run_endRound (P := P) none hl3
        have hrd : (W3.putObj (w.heap.size + 1) (.loop (rc .ready))).heap[w.heap.size + 1]? = some (.loop (rc .ready)) ∧ (W3.putObj (w.heap.size + 1) (.loop (rc .ready))).heap[w.heap.size]? = some (.deferred (some [])) :=
          ⟨World.putObj_heap_same hlt3, (World.putObj_heap_other (by omega)).trans hk3⟩
        refine ⟨_, _, hend, ?_⟩
        have e4 : ({ { rc .ready with state := .busy } with state := if (none : Option Code).isNone then .ready else .done, pending := none } : Loop) = rc .ready := by rw [hrc]; rfl
        rw [e4]
        exact ⟨rfl, hrd, hfin _ hrd⟩
      | ret => exact hp3.elim
      | exit id => exact hp3.elim
      | goto t => exact hp3.elim
      | panic c => exact hp3.elim
      | outgrown => exact hp3.elim
    | ret => exact hp.elim
    | exit id => exact hp.elim
    | goto t => exact hp.elim
    | panic c => exact hp.elim
    | outgrown => exact hp.elim
  refine ⟨w.heap.size + 1, [{ target := .collected w.heap.size, args := #[] }], W1, { target := .fn (.func gf) lb, args := #[.func (.yield (w.heap.size + 1)) #[] #[]] }, W1, gf,
    #[.func (.yield (w.heap.size + 1)) #[] #[]] ++ lb, W1, ?_, ?_, fun _ _ => trivial, ?_, fun h => (by cases h), ?_⟩
  · rw [← hW1, hrc]; exact he
  · simp only [resolve, hg]
    simp [go_sem]
  · simp [invoke, go_sem, eg]
  · refine hR.mono ?_
    rintro e W2 ⟨⟨v, rfl⟩, ⟨hl, hk⟩, hZ⟩
    have hend := run_endLoop (P := P) hl (by rw [hrc]; simp)
    exact ⟨_, _, hend, by rw [hrc]; exact hdone _ _ hZ hk⟩
end Go.Proofs.YtgjalfcpfgbneaaGreatDoor.F
