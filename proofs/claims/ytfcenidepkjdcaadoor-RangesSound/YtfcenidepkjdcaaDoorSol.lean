/- RangesSound, called. -/
import Derived.Test.YtfcenidepkjdcaaDoorSox
import Derived.Test.YtfcenidepkjdcaaDoorSott
import Derived.Test.YtfcenidepkjdcaaDoorSotf
import Derived.Test.YtfcenidepkjdcaaDoorSoft
import Derived.Test.YtfcenidepkjdcaaDoorSoff
import Derived.Test.YtfcenidepkjdcaaDoorOpt
namespace Go.Proofs.YtfcenidepkjdcaaDoor
open Go.RowKit Go.Shelf
set_option maxRecDepth 100000 in
set_option maxHeartbeats 1000000 in
theorem sound_walk (w : World) (na nb nc : Int) (table : Bool) (hg : V.Gm w) (hn : (-9223372036854775808 ≤ na ∧ na < 9223372036854775808) ∧ (-9223372036854775808 ≤ nb ∧ nb < 9223372036854775808) ∧ (-9223372036854775808 ≤ nc ∧ nc < 9223372036854775808)) :
    Calls Tryd.prog 5 #[.agg #[.int .i64 na, .int .i64 nb, .int .i64 nc], .bool table] w fun e w' => e = .returned (.bool true) ∧ Below w.heap.size w w' := by
  obtain ⟨ha, hb, hc⟩ := hn
  have kaw : ∀ W, Below w.heap.size w W → Calls Tryd.prog 8 #[] W fun e w' => e = .returned (.bool true) ∧ Below W.heap.size W w' := fun W hb => awake_any W (hg.later hb hg.pos)
  have kb := fun W => doc_sound nb hb W
  have kc := fun W => doc_sound nc hc W
  have kv : ∀ W, Calls Tryd.prog 17 #[.int .i64 na] W fun e w' => e = .returned (.agg #[.int .i64 2, .bool false, .int .i64 na, .string ⟨#[]⟩, .slice none 0 0, .slice none 0 0]) ∧ Below W.heap.size W w' := fun W => V.vint na W
  have ke : ∀ W, Below w.heap.size w W → Calls Tryd.prog 19 #[.agg #[.int .i64 2, .bool false, .int .i64 na, .string ⟨#[]⟩, .slice none 0 0, .slice none 0 0]] W fun e w' => e = .returned (.agg #[.string (oneK na), .string (V.nextB (oneK na))]) ∧ Below W.heap.size W w' := fun W hb => leaf_check na (leaf_ok na ha) ha (hg.later hb hg.pos)
  have kp : ∀ W, Calls Tryd.prog 18 #[.string ⟨#[116]⟩, .string ⟨#[97]⟩, .agg #[.string (oneK na), .string (V.nextB (oneK na))]] W fun e w' => e = .returned (.agg #[.string ⟨#[116]⟩, .string ⟨#[97]⟩, .string (oneK na), .string (V.nextB (oneK na))]) ∧ Below W.heap.size W w' := fun W => by
    have := part_any tB aB (oneK na) (V.nextB (oneK na)) W
    rw [plA_a] at this
    exact this
  have kw : ∀ W, Calls Tryd.prog 20 #[.string ⟨#[116]⟩] W fun e w' => e = .returned (.agg #[.string ⟨#[116]⟩, .string ⟨#[]⟩, .string ⟨#[]⟩, .string ⟨#[]⟩]) ∧ Below W.heap.size W w' := fun W => whole_any ⟨#[116]⟩ W
  have kh : ∀ tt W A C, Below w.heap.size w W → V.Lies W.heap.size W (aT nb) A → V.Lies W.heap.size W (aT nc) C → Calls Tryd.prog 9 #[.agg (rdA tB aB (oneK na) (V.nextB (oneK na))), .agg (thA tt false (aT nb) A (aT nc) C true true)] W fun e w' => e = .returned (.bool ((tB.toList == tt.toList) && (decide (na = nb) || decide (na = nc)))) ∧ Below W.heap.size W w' := fun tt W A C hbw h1 h2 => by
    have := hits_any tB aB (oneK na) (V.nextB (oneK na)) tt false (aT nb) A (aT nc) C true true h1 h2 (Nat.le_refl _) (hg.later hbw hg.pos) (aT_ok nb hb) (aT_ok nc hc)
    rwa [hit_one tt ha hb hc] at this
  cases table with
  | true =>
    have kh1 := kh ⟨#[117]⟩
    rw [show (tB.toList == (⟨#[117]⟩ : ByteArray).toList) = false by decide +kernel, Bool.false_and] at kh1
    exact sound_true w na nb nc (aT nb) (aT nc) (oneK na) (V.nextB (oneK na)) _ _ rfl rfl kaw kb kc kv ke kp kh1 kw
  | false =>
    have kh1 := kh ⟨#[116]⟩
    rw [show (tB.toList == (⟨#[116]⟩ : ByteArray).toList) = true by decide +kernel, Bool.true_and] at kh1
    by_cases h1 : na = nb
    · by_cases h2 : na = nc
      · rw [decide_eq_true h1, decide_eq_true h2] at kh1
        exact sound_tt w na nb nc (aT nb) (aT nc) (oneK na) (V.nextB (oneK na)) (beq_iff_eq.2 h1) (beq_iff_eq.2 h2) kaw kb kc kv ke kp kh1 kw
      · rw [decide_eq_true h1, decide_eq_false h2] at kh1
        exact sound_tf w na nb nc (aT nb) (aT nc) (oneK na) (V.nextB (oneK na)) (beq_iff_eq.2 h1) (beq_false_of_ne h2) kaw kb kc kv ke kp kh1 kw
    · by_cases h2 : na = nc
      · rw [decide_eq_false h1, decide_eq_true h2] at kh1
        exact sound_ft w na nb nc (aT nb) (aT nc) (oneK na) (V.nextB (oneK na)) (beq_false_of_ne h1) (beq_iff_eq.2 h2) kaw kb kc kv ke kp kh1 kw
      · rw [decide_eq_false h1, decide_eq_false h2] at kh1
        exact sound_ff w na nb nc (aT nb) (aT nc) (oneK na) (V.nextB (oneK na)) (beq_false_of_ne h1) (beq_false_of_ne h2) kaw kb kc kv ke kp kh1 kw
end Go.Proofs.YtfcenidepkjdcaaDoor
