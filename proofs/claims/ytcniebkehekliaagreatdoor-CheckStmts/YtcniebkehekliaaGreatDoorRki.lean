/- The document's Kind of any expression that was parsed. -/
import Derived.Test.YtcniebkehekliaaGreatDoorTwp
import Derived.Test.YtcniebkehekliaaGreatDoorRax
import Derived.Test.YtcniebkehekliaaGreatDoorRsx
namespace Go.Proofs.YtcniebkehekliaaGreatDoor
open Go.RowKit Go.Shelf
theorem nmb_ge (l : List Int) : -1 ≤ (nmbF l).1 := by
  unfold nmbF
  split
  · show -1 ≤ (if l.all (· == 2) then (2 : Int) else -1)
    split <;> omega
  · show (-1 : Int) ≤ 0
    omega
theorem tru_ge (l : List Int) : -1 ≤ (truF l).1 := by
  unfold truF
  split
  · show (-1 : Int) ≤ 1
    omega
  · show (-1 : Int) ≤ 0
    omega
theorem sid_ge (s : List UInt8) (l : List Int) : -1 ≤ (sidK s l).1 := by
  unfold sidK
  split
  · exact tru_ge l
  split
  · show (-1 : Int) ≤ 1
    omega
  split
  · exact nmb_ge l
  · show (-1 : Int) ≤ 0
    omega
theorem own_ge (k : Int) (s : List UInt8) (vk : Nat) (b : Bool) (l : List Int) : -1 ≤ (ownK k s (vk : Int) b l).1 := by
  unfold ownK
  repeat' split
  all_goals first
    | exact nmb_ge l
    | exact tru_ge l
    | exact sid_ge s l
    | (show (-1 : Int) ≤ _; simp only; omega)
    | (show (-1 : Int) ≤ (if b then (-1 : Int) else 0); split <;> omega)
theorem knd_ge (d : Nat) (t : Et) (b : Bool) : -1 ≤ (kndF d t b).1 := by
  cases d with
  | zero => show (-1 : Int) ≤ 0; omega
  | succ d =>
    unfold kndF kndK
    split
    · split
      · show (-1 : Int) ≤ 0; omega
      split
      · exact own_ge _ _ _ _ _
      · show (-1 : Int) ≤ 0; omega
    · show (-1 : Int) ≤ 0; omega
theorem frm_ok {e : En} (h : EnOk e) : frmB (e.k : Int) e.n e.m = true := by
  unfold frmB
  rcases h.form with ⟨h1, h2⟩ | ⟨h1, h2⟩ | ⟨h1, h2, _⟩ | ⟨h1, h2, _⟩ | h1 | ⟨h1, h2⟩
  · rw [h1, h2]; rfl
  · rw [h1, h2]; rfl
  · rcases h1 with h1 | h1 | h1 <;> rw [h1, h2] <;> rfl
  · rw [h1, h2]; rfl
  · rw [h1]; rfl
  · rw [h1, h2]
    simp
/- What a formed expression comes to, as the cases say it. -/
theorem knd_rK {e : En} (h : EnOk e) (tw b : Bool) (K : List Int × Int) : kndK (e.k : Int) e.s.data.toList (e.vk : Int) e.n e.m tw b K = rK (fun l => if (e.k : Int) = 8 ∧ tw = true then (0, 133) else ownK (e.k : Int) e.s.data.toList (e.vk : Int) b l) K := by
  unfold kndK rK
  rw [frm_ok h, if_pos rfl]
theorem rkind_any (b : Bool) : ∀ (d : Nat) {w : World} {S : Nat → Prop} {t : Et} {v : Value}, LiesE w S d t v → Wfd d t →
    Calls Tryz.prog 9 #[v, .bool b] w fun r w' => r = .returned (.tuple #[.int .i64 (kndF d t b).1, .int .i64 (kndF d t b).2]) ∧ Below w.heap.size w w'
  | 0, _, _, _, _, h, _ => h.elim
  | d + 1, w, S, t, v, h, hW => by
    obtain ⟨kp, kc, np, nc, K, rfl, hN, hK, hk⟩ := h
    have few := hW.1.few
    have ok := hW.1
    have hRp : Rp w S d t.sub b (fun u => kndF d u b) (⟨((t []).k : Int), (t []).s, ((t []).vk : Int), (t []).vb, (t []).vn, (t []).vs, kp, (t []).n, kc, np, (t []).m, nc⟩ : XR) := by
      refine ⟨⟨?_, ?_⟩, ⟨K, hK, hk⟩, fun W i v hi hL => rkind_any b d hL (hW.2 i hi), fun u => knd_ge d u b⟩
      · show (t []).n ≤ 1000; omega
      · show (t []).m ≤ 1000; omega
    unfold kndF
    rw [knd_rK ok]
    have key : ∀ (own : List Int → Int × Int), (∀ l, (if ((t []).k : Int) = 8 ∧ twB (nmLs (t []).m (t []).nm) = true then (0, 133) else ownK ((t []).k : Int) (t []).s.data.toList ((t []).vk : Int) b l) = own l) →
        Calls Tryz.prog 9 #[enV (t []) kp kc np nc, .bool b] w (fun r w' => r = .returned (.tuple #[.int .i64 (rK own (kdsF (fun u => kndF d u b) t.sub 0 (t []).n [])).1, .int .i64 (rK own (kdsF (fun u => kndF d u b) t.sub 0 (t []).n [])).2]) ∧ Below w.heap.size w w') →
        Calls Tryz.prog 9 #[enV (t []) kp kc np nc, .bool b] w (fun r w' => r = .returned (.tuple #[.int .i64 (rK (fun l => if ((t []).k : Int) = 8 ∧ twB (nmLs (t []).m (t []).nm) = true then (0, 133) else ownK ((t []).k : Int) (t []).s.data.toList ((t []).vk : Int) b l) (kdsF (fun u => kndF d u b) t.sub 0 (t []).n [])).1, .int .i64 (rK (fun l => if ((t []).k : Int) = 8 ∧ twB (nmLs (t []).m (t []).nm) = true then (0, 133) else ownK ((t []).k : Int) (t []).s.data.toList ((t []).vk : Int) b l) (kdsF (fun u => kndF d u b) t.sub 0 (t []).n [])).2]) ∧ Below w.heap.size w w') := fun own he hc => by
      have e : (fun l => if ((t []).k : Int) = 8 ∧ twB (nmLs (t []).m (t []).nm) = true then (0, 133) else ownK ((t []).k : Int) (t []).s.data.toList ((t []).vk : Int) b l) = own := funext he
      rw [e]
      exact hc
    have hkk : ∀ j : Nat, (t []).k = j → ((t []).k : Int) = (j : Int) := fun j h => by rw [h]
    rcases ok.form with ⟨h1, h2⟩ | ⟨h1, h2⟩ | ⟨h1, h2, h3⟩ | ⟨h1, h2, h3⟩ | h1 | ⟨h1, h2⟩
    · exact key _ (fun l => by rw [h1]; rfl) (rkind_k1 b hRp (hkk 1 h1))
    · cases b with
      | true => exact key _ (fun l => by rw [h1]; rfl) (rkind_k2t hRp (hkk 2 h1))
      | false => exact key _ (fun l => by rw [h1]; rfl) (rkind_k2u hRp (hkk 2 h1))
    · rcases h1 with h1 | h1 | h1
      · exact key nmbF (fun l => by rw [h1]; rfl) (rkind_k3 b hRp (hkk 3 h1) h3)
      · exact key truF (fun l => by rw [h1]; rfl) (rkind_k4 b hRp (hkk 4 h1) h3)
      · exact key _ (fun l => by rw [h1]; rfl) (rkind_k5 b hRp (hkk 5 h1))
    · have hx := h3
      unfold sgns at hx
      simp only [List.mem_cons, List.not_mem_nil, or_false] at hx
      rcases hx with e | e | e | e | e | e | e | e | e | e | e
      · exact key truF (fun l => by rw [h1, e]; rfl) (rkind_sor b hRp (hkk 6 h1) e)
      · exact key truF (fun l => by rw [h1, e]; rfl) (rkind_sand b hRp (hkk 6 h1) e)
      · exact key _ (fun l => by rw [h1, e]; rfl) (rkind_seq b hRp (hkk 6 h1) e)
      · exact key _ (fun l => by rw [h1, e]; rfl) (rkind_sne b hRp (hkk 6 h1) e)
      · exact key _ (fun l => by rw [h1, e]; rfl) (rkind_slt b hRp (hkk 6 h1) e)
      · exact key _ (fun l => by rw [h1, e]; rfl) (rkind_sle b hRp (hkk 6 h1) e)
      · exact key _ (fun l => by rw [h1, e]; rfl) (rkind_sgt b hRp (hkk 6 h1) e)
      · exact key _ (fun l => by rw [h1, e]; rfl) (rkind_sge b hRp (hkk 6 h1) e)
      · exact key nmbF (fun l => by rw [h1, e]; rfl) (rkind_sadd b hRp (hkk 6 h1) e)
      · exact key nmbF (fun l => by rw [h1, e]; rfl) (rkind_ssub b hRp (hkk 6 h1) e)
      · exact key nmbF (fun l => by rw [h1, e]; rfl) (rkind_smul b hRp (hkk 6 h1) e)
    · exact key _ (fun l => by rw [h1]; rfl) (rkind_k7 b hRp (hkk 7 h1))
    · refine key (fun _ => if twB (nmLs (t []).m (t []).nm) = true then (0, 133) else (6, 0)) (fun l => ?_) (rkind_k8 b hRp (hkk 8 h1) (gn := (t []).nm) hN ⟨fun h => ?_, fun h => ?_⟩)
      · rw [h1]
        cases ht : twB (nmLs (t []).m (t []).nm) with
        | true => rfl
        | false => rfl
      · rw [if_pos ((twB_iff _ _).2 h)]
      · rw [if_neg (fun k => h ((twB_iff _ _).1 k))]
end Go.Proofs.YtcniebkehekliaaGreatDoor
