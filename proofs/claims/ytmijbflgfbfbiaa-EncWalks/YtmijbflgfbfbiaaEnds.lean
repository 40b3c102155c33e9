/- How the law EncWalks ends: the cursor's End and the document's, in any order. -/
import Derived.Test.YtmijbflgfbfbiaaTakes
import Derived.WalkKit
import Derived.WalkSpells
import Derived.WalkLawsBesides
import Derived.Deep.QuietTactic
import Derived.BigQuiet
import Derived.Lib.Strings
namespace Go.Proofs.Ytmijbflgfbfbiaa
open Go.RowKit
def endE (s : ByteArray) (o : Nat) (er : Int) : Int := if er = 0 ∧ o < s.size then 5 else er
theorem endE_again (s : ByteArray) (o : Nat) (er : Int) : endE s o (endE s o er) = endE s o er := by
  unfold endE
  by_cases h : er = 0 ∧ o < s.size
  · rw [if_pos h, if_neg (fun k => by have := k.1; omega)]
  · rw [if_neg h, if_neg h]
theorem end_at {w : World} {b : Nat} {s : ByteArray} {o : Nat} {er : Int} (hcu : Cur w b s (o : Int) er) : Calls Try.prog 14 #[.pointer (some ⟨b, 0, none⟩)] w fun e w' => e = .returned (.int .i64 (endE s o er)) ∧ Cur w' b s (o : Int) (endE s o er) ∧ Only b w w' := by
  by_cases h0 : er = 0
  · subst h0
    have hc0 := hcu.c0
    have hc1 := hcu.c1
    have hc2 := hcu.c2
    have hf := hcu.f 2
    have hq := fun n => err_at (hcu.drewN n)
    by_cases ho : o < s.size
    · have ho' : (o : Int) < (s.size : Int) := by omega
      have hE : endE s o 0 = 5 := if_pos ⟨rfl, ho⟩
      rw [hE]
      clear hE
      go_enter Try.func14, Try.ntmps14
      go_wp2_with fail
      go_quiet ((go_at_call 20; exact Calls.quiet_of_same (hq _)))
      go_wp2_with fail
      refine (err_at ((hcu.drewN nq).set2 5)).mono ?_
      rintro e w1 ⟨rfl, rfl⟩
      go_wp2
      go_ret
      exact ⟨rfl, (hcu.drewN nq).set2 5, ((Only.refl b w).drewN nq).setCell 2 _⟩
    · have ho' : ¬ (o : Int) < (s.size : Int) := by omega
      have hE : endE s o 0 = 0 := if_neg (fun h => ho h.2)
      rw [hE]
      clear hE
      go_enter Try.func14, Try.ntmps14
      go_wp2_with fail
      go_quiet ((go_at_call 20; exact Calls.quiet_of_same (hq _)))
      go_wp2_with fail
      refine (err_at (hcu.drewN nq)).mono ?_
      rintro e w1 ⟨rfl, rfl⟩
      go_wp2
      go_ret
      exact ⟨rfl, hcu.drewN nq, (Only.refl b w).drewN nq⟩
  · have hE : endE s o er = er := if_neg (fun h => h0 h.1)
    rw [hE]
    refine (end_err hcu h0).mono ?_
    rintro e w' ⟨rfl, n, rfl⟩
    exact ⟨rfl, hcu.drewN n, (Only.refl b w).drewN n⟩
structure EInv (w W : World) (b d : Nat) (t : ByteArray) (o : Nat) (e : Int) : Prop where
  hb : Below w.heap.size w W
  hc : Cur W b t (o : Int) e ∨ Cur W b t (o : Int) (endE t o e)
  hd : W.heap[d]? = some (.cells #[.string t, .int .i64 (o : Int), .int .i64 e] 36 (0, 0))
theorem EInv.later {w W W' : World} {b d : Nat} {t : ByteArray} {o : Nat} {e : Int} (H : EInv w W b d t o e) (h : Below W.heap.size W W') : EInv w W' b d t o e :=
  ⟨H.hb.trans (h.mono H.hb.size), H.hc.elim (fun k => Or.inl (k.later h)) (fun k => Or.inr (k.later h)), (h.block d (lt_of_row H.hd)).trans H.hd⟩
theorem EInv.awake {w W : World} {b d : Nat} {t : ByteArray} {o : Nat} {e : Int} (H : EInv w W b d t o e) : Calls Try.prog 11 #[] W fun r w' => r = .returned (.bool true) ∧ EInv w w' b d t o e :=
  (awake_any W).mono fun _ _ h => ⟨h.1, H.later h.2⟩
theorem EInv.rend {w W : World} {b d : Nat} {t : ByteArray} {o : Nat} {e : Int} (H : EInv w W b d t o e) : Calls Try.prog 32 #[.agg #[.string t, .int .i64 (o : Int), .int .i64 e]] W fun r w' => r = .returned (.agg #[.string t, .int .i64 (o : Int), .int .i64 (endE t o e)]) ∧ EInv w w' b d t o e :=
  (rend_at t o e W).mono fun _ _ h => ⟨h.1, H.later h.2⟩
theorem EInv.eend {w W : World} {b d : Nat} {t : ByteArray} {o : Nat} {e : Int} (H : EInv w W b d t o e) (hwb : w.heap.size ≤ b) (hbd : b ≠ d) : Calls Try.prog 14 #[.pointer (some ⟨b, 0, none⟩)] W fun r w' => r = .returned (.int .i64 (endE t o e)) ∧ EInv w w' b d t o e := by
  rcases H.hc with h | h
  · refine (end_at h).mono ?_
    rintro r w' ⟨hr, hk, ho⟩
    exact ⟨hr, H.hb.trans (ho.below hwb H.hb.size), Or.inr hk, (ho.block d (lt_of_row H.hd) (fun h => hbd h.symm)).trans H.hd⟩
  · refine (end_at h).mono ?_
    rw [endE_again]
    rintro r w' ⟨hr, hk, ho⟩
    exact ⟨hr, H.hb.trans (ho.below hwb H.hb.size), Or.inr hk, (ho.block d (lt_of_row H.hd) (fun h => hbd h.symm)).trans H.hd⟩
theorem EInv.cells {w W : World} {b d : Nat} {t : ByteArray} {o : Nat} {e : Int} (H : EInv w W b d t o e) : (W.cell? ⟨d, 0, none⟩ = some (.string t) ∧ W.cell? ⟨d, 1, none⟩ = some (.int .i64 (o : Int)) ∧ W.cell? ⟨d, 2, none⟩ = some (.int .i64 e)) := (row3 H.hd).1
theorem field2 (x y z : Value) (W : World) : (Instr.field 36 (.agg #[x, y, z]) 2).run Try.prog W = .ok z W := by kernel_rfl
end Go.Proofs.Ytmijbflgfbfbiaa
