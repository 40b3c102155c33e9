/- Whether keys rise: rise, over whatever hands rising keys to a loop. -/
import Derived.Test.YtiplmlalhmldbaaSpl
namespace Go.Proofs.Ytiplmlalhmldbaa
open Go.RowKit Go.Shelf
attribute [local go_sem] Oper.semAt_some
def lastK : List Im → ByteArray
  | [] => ⟨#[]⟩
  | x :: l => lastK2 x l
where lastK2 : Im → List Im → ByteArray
  | x, [] => x.1
  | _, y :: l => lastK2 y l
theorem lastK_snoc (pre : List Im) (x : Im) : lastK (pre ++ [x]) = x.1 := by
  have : ∀ (l : List Im) (y : Im), lastK.lastK2 y (l ++ [x]) = x.1 := by
    intro l
    induction l with
    | nil => intro y; rfl
    | cons z l ih => intro y; exact ih z
  cases pre with
  | nil => rfl
  | cons y l => exact this l y
theorem sc_other {W : World} {b o k : Nat} {v : Value} (h : k ≠ b) : (W.setCell ⟨b, o, none⟩ v).heap[k]? = W.heap[k]? := heap_setCell_other _ _ _ _ h
theorem ris_last {xs pre : List Im} {x : Im} (hr : Ris xs) (hp : pre ++ [x] <+: xs) (hne : pre ≠ []) : ltB (lastK pre) x.1 = true := by
  obtain ⟨r, rfl⟩ := hp
  obtain ⟨q, y, rfl⟩ : ∃ q y, pre = q ++ [y] := by
    rcases List.eq_nil_or_concat pre with h | h
    · exact absurd h hne
    · obtain ⟨q, y, h⟩ := h
      exact ⟨q, y, by rw [h, List.concat_eq_append]⟩
  rw [lastK_snoc]
  have h := hr q.length (q.length + 1) (by omega) (by simp)
  simpa using h
set_option maxRecDepth 100000 in
set_option maxHeartbeats 4000000 in
theorem rise_any (xs : List Im) (hr : Ris xs) (lb : Array Value) (A : Nat → Prop) (w : World) (hA : ∀ k, A k → k < w.heap.size) (hseq : ∀ W, Below w.heap.size w W → SeqB Try.prog 38 lb (fun x : Im => #[.string x.1, .string x.2]) xs A W) :
    Calls Try.prog 29 #[.func (.func 38) #[] lb] w fun e w' => e = .returned (.bool true) ∧ Below w.heap.size w w' := by
  obtain ⟨w3, hw3⟩ : ∃ w3, ((w.alloc (.cells #[.bool false] 4)).alloc (.cells #[.string ⟨#[]⟩] 9)).alloc (.cells #[.bool true] 4) = w3 := ⟨_, rfl⟩
  have hb3 : Below w.heap.size w w3 := by rw [← hw3]; exact (((Below.refl _ w).alloc (Nat.le_refl _) _).alloc (by simp) _).alloc (by simp; omega) _
  have hs3 : w3.heap.size = w.heap.size + 3 := by rw [← hw3]; simp
  have r0 : w3.heap[w.heap.size]? = some (.cells #[.bool false] 4 (0, 0)) := by
    rw [← hw3, Below.heap_alloc _ _ _ (by simp; omega), Below.heap_alloc _ _ _ (by simp)]; exact heap_alloc_new _ _
  have r1 : w3.heap[w.heap.size + 1]? = some (.cells #[.string ⟨#[]⟩] 9 (0, 0)) := by
    rw [← hw3, Below.heap_alloc _ _ _ (by simp)]
    have := heap_alloc_new (w.alloc (.cells #[.bool false] 4)) (.cells #[.string ⟨#[]⟩] 9)
    simpa using this
  have r2 : w3.heap[w.heap.size + 1 + 1]? = some (.cells #[.bool true] 4 (0, 0)) := by
    rw [← hw3]
    have := heap_alloc_new ((w.alloc (.cells #[.bool false] 4)).alloc (.cells #[.string ⟨#[]⟩] 9)) (.cells #[.bool true] 4)
    simpa using this
  refine (callsIn_wide (n := 0)).1 ?_
  refine callsIn_of_wp_marks Try.func29 rfl trivial ?_ rfl
  simp only [Try.ntmps29, List.size_toArray, List.length_cons, List.length_nil, Nat.reduceAdd, Nat.reduceSub, Array.replicate_succ, Array.replicate_zero, List.push_toArray, List.append_toArray, List.nil_append, List.cons_append]
  gi_wp2
  refine range_b (gf := 38) (lb := lb) rfl (enters_of Try.func38 (by kernel_rfl) rfl) (hseq w3 hb3) (fun _ => rfl) (fun k => k = w.heap.size ∨ k = w.heap.size + 1 ∨ k = w.heap.size + 1 + 1)
    (fun k hk => ⟨by have := hA k hk; omega, by have := hA k hk; omega⟩) (fun k hk => by omega)
    (fun pre W => W.heap[w.heap.size]? = some (.cells #[.bool false] 4 (0, 0)) ∧ W.heap[w.heap.size + 1]? = some (.cells #[.string (lastK pre)] 9 (0, 0)) ∧ W.heap[w.heap.size + 1 + 1]? = some (.cells #[.bool pre.isEmpty] 4 (0, 0)) ∧ Below w.heap.size w W)
    (fun _ _ _ => False)
    (fun s U V ⟨h0, h1, h2, h3⟩ hb => ⟨(hb.block _ (by omega)).trans h0, (hb.block _ (by omega)).trans h1, (hb.block _ (by omega)).trans h2, h3.trans (hb.mono (by omega))⟩)
    (fun _ _ _ _ h _ => h) ⟨r0, r1, r2, hb3⟩
    (fun x => { tmps := #[.func (.func 38) #[] lb, undef, .pointer (some ⟨w.heap.size, 0, none⟩), .pointer (some ⟨w.heap.size + 1, 0, none⟩), .pointer (some ⟨w.heap.size + 1 + 1, 0, none⟩), .string x.1, .func (.func 38) #[] lb, .string x.1, .string x.2, undef, undef, undef, undef, undef, undef, undef, undef], defers := [] }) ?assign ?body ?done ?stop
  case assign =>
    intro l x W K hK
    gi_wp2
    exact hK
  case body =>
    rintro l pre x W ⟨h0, h1, h2, h3⟩ hp hsz
    have c0 := cell_of_row W _ 0 _ _ _ h0
    have c1 := cell_of_row W _ 0 _ _ _ h1
    have c2 := cell_of_row W _ 0 _ _ _ h2
    have g1 := frozen_of_row W _ 0 _ _ h1
    have g2 := frozen_of_row W _ 0 _ _ h2
    have hfin : ∀ (b : Act), bPost (fun k => k = w.heap.size ∨ k = w.heap.size + 1 ∨ k = w.heap.size + 1 + 1)
      (fun pre W => W.heap[w.heap.size]? = some (.cells #[.bool false] 4 (0, 0)) ∧ W.heap[w.heap.size + 1]? = some (.cells #[.string (lastK pre)] 9 (0, 0)) ∧ W.heap[w.heap.size + 1 + 1]? = some (.cells #[.bool pre.isEmpty] 4 (0, 0)) ∧ Below w.heap.size w W)
      (fun _ _ _ => False) (pre ++ [x]) W .normal b ((W.setCell ⟨w.heap.size + 1, 0, none⟩ (.string x.1)).setCell ⟨w.heap.size + 1 + 1, 0, none⟩ (.bool false)) := fun _ => by
      refine ⟨((KC.of (Below.refl _ W)).setCell (b := w.heap.size + 1) (o := 0) (Or.inr (Or.inl rfl)) _).setCell (b := w.heap.size + 1 + 1) (o := 0) (Or.inr (Or.inr rfl)) _, ?_, ?_, ?_, ?_⟩
      · rw [sc_other (by omega), sc_other (by omega)]; exact h0
      · rw [sc_other (by omega), lastK_snoc]; exact heap_setCell_same W _ 0 _ _ _ h1
      · have h2' : (W.setCell ⟨w.heap.size + 1, 0, none⟩ (.string x.1)).heap[w.heap.size + 1 + 1]? = some (.cells #[.bool pre.isEmpty] 4 (0, 0)) := by rw [sc_other (by omega)]; exact h2
        have := heap_setCell_same _ _ 0 _ _ (.bool false) h2'
        rw [show (pre ++ [x]).isEmpty = false by cases pre <;> rfl]
        simpa using this
      · exact (h3.setCell (p := ⟨w.heap.size + 1, 0, none⟩) (Nat.le_succ _) _).setCell (p := ⟨w.heap.size + 1 + 1, 0, none⟩) (by simp; omega) _
    cases pre with
    | nil =>
      gi_wp2
      exact hfin _
    | cons y pre =>
      have hl := ris_last hr hp (by simp)
      have hl2 : Op.bytesLess x.1.toList (lastK (y :: pre)).toList = false := lt8_asymm hl
      have hl3 : ¬ x.1.toList = (lastK (y :: pre)).toList := fun e => lt8_ne hl e.symm
      obtain ⟨la, hla⟩ : ∃ la, lastK (y :: pre) = la := ⟨_, rfl⟩
      rw [hla] at c1 hl2 hl3
      have hl4 : (x.1.toList == la.toList) = false := by simpa using hl3
      have HF := hfin
      clear hfin
      gi_wp2
      exact HF _
  case done =>
    rintro W ⟨h0, h1, h2, h3⟩ hkc hD
    have c0 := cell_of_row W _ 0 _ _ _ h0
    have g0 := frozen_of_row W _ 0 _ _ h0
    have hD2 : (W.setCell ⟨w.heap.size, 0, none⟩ (.bool true)).heap[w3.heap.size]? = some (.deferred (some [])) := by rw [sc_other (by omega)]; exact hD
    gi_wp2
    refine ⟨by simp, .inl ⟨_, _, rfl, run_takeDeferred hD2, ?_⟩⟩
    have hrow : ((W.setCell ⟨w.heap.size, 0, none⟩ (.bool true)).putObj w3.heap.size (.deferred none)).heap[w.heap.size]? = some (.cells #[.bool true] 4 (0, 0)) := by
      rw [World.putObj_heap_other (by omega)]
      exact heap_setCell_same W _ 0 _ _ _ h0
    have hcell := cell_of_row _ _ 0 _ _ _ hrow
    refine ⟨.bool true, by simp [results, Try.results29, go_sem, hcell], rfl, ?_⟩
    exact (h3.setCell (p := ⟨w.heap.size, 0, none⟩) (Nat.le_refl _) _).trans (putObj_below _ _ (by omega))
  case stop =>
    rintro c pre W _ h
    exact h.elim
end Go.Proofs.Ytiplmlalhmldbaa
