/- The kind of any expression (Kind), and any expression as the document has it (Expr). -/
import Derived.Test.YtcniebkehekliaaGreatDoorTwc
import Derived.Test.YtcniebkehekliaaGreatDoorWft
import Derived.Test.YtcniebkehekliaaGreatDoorExw
import Derived.Test.YtcniebkehekliaaGreatDoorKwx
namespace Go.Proofs.YtcniebkehekliaaGreatDoor
open Go.RowKit Go.Shelf
theorem kind_join (R : XR) (b : Bool) (K : List Int × Int) (hK : K.1.length ≤ 1000) (tw : Bool) (w : World)
    (kk : ∀ W, Below w.heap.size w W → Calls Tryz.prog 18 #[.slice R.kp R.n R.kc, .bool b] W (GivesK W K)) (kt : ∀ W, Below w.heap.size w W → Calls Tryz.prog 19 #[.slice R.np R.m R.nc] W fun r w' => r = .returned (.bool tw) ∧ Below W.heap.size W w') :
    Calls Tryz.prog 8 #[rowX R, .bool b] w fun r w' => r = .returned (.tuple #[.int .i64 (kndK R.k R.s.data.toList R.vk R.n R.m tw b K).1, .int .i64 (kndK R.k R.s.data.toList R.vk R.n R.m tw b K).2]) ∧ Below w.heap.size w w' := by
  obtain ⟨Z, hZ⟩ : ∃ Z, kndK R.k R.s.data.toList R.vk R.n R.m tw b K = Z := ⟨_, rfl⟩
  rw [hZ]
  unfold kndK at hZ
  by_cases he : K.2 = 0
  · rw [if_pos he] at hZ
    by_cases k8 : R.k = 8
    · cases ht : tw with
      | true =>
        rw [if_pos ⟨k8, ht⟩] at hZ
        subst hZ
        exact kind_twice R b K hK tw w kk kt he k8 ht
      | false =>
        rw [if_neg (fun h => by rw [ht] at h; cases h.2)] at hZ
        cases hf : frmB R.k R.n R.m with
        | true =>
          rw [hf, if_pos rfl] at hZ
          unfold ownK at hZ
          simp only [k8] at hZ
          simp at hZ
          subst hZ
          exact kind_k8y R b K hK tw w kk kt he k8 ht hf
        | false =>
          rw [hf, if_neg (by decide)] at hZ
          subst hZ
          exact kind_k8n R b K hK tw w kk kt he k8 ht hf
    · rw [if_neg (fun h => k8 h.1)] at hZ
      cases hf : frmB R.k R.n R.m with
      | true =>
        rw [hf, if_pos rfl] at hZ
        unfold ownK at hZ
        by_cases k1 : R.k = 1
        · rw [if_pos k1] at hZ
          subst hZ
          exact kind_k1y R b K hK tw w kk kt he k1 hf
        rw [if_neg k1] at hZ
        by_cases k2 : R.k = 2
        · rw [if_pos k2] at hZ
          subst hZ
          cases b with
          | true => exact kind_k2t R K hK tw w kk kt he k2 hf
          | false => exact kind_k2u R K hK tw w kk kt he k2 hf
        rw [if_neg k2] at hZ
        by_cases k3 : R.k = 3
        · rw [if_pos k3] at hZ
          subst hZ
          exact kind_k3y R b K hK tw w kk kt he k3 hf
        rw [if_neg k3] at hZ
        by_cases k4 : R.k = 4
        · rw [if_pos k4] at hZ
          subst hZ
          exact kind_k4y R b K hK tw w kk kt he k4 hf
        rw [if_neg k4] at hZ
        by_cases k5 : R.k = 5
        · rw [if_pos k5] at hZ
          subst hZ
          exact kind_k5y R b K hK tw w kk kt he k5 hf
        rw [if_neg k5] at hZ
        by_cases k6 : R.k = 6
        · rw [if_pos k6] at hZ
          subst hZ
          exact kind_k6y R b K hK tw w kk kt he k6 hf
        rw [if_neg k6] at hZ
        by_cases k7 : R.k = 7
        · rw [if_pos k7] at hZ
          subst hZ
          exact kind_k7y R b K hK tw w kk kt he k7 hf
        rw [if_neg k7, if_neg k8] at hZ
        subst hZ
        exact kind_other R b K hK tw w kk kt he k1 k2 k3 k4 k5 k6 k7 k8 hf
      | false =>
        rw [hf, if_neg (by decide)] at hZ
        subst hZ
        by_cases k1 : R.k = 1
        · exact kind_k1n R b K hK tw w kk kt he k1 hf
        by_cases k2 : R.k = 2
        · exact kind_k2n R b K hK tw w kk kt he k2 hf
        by_cases k3 : R.k = 3
        · exact kind_k3n R b K hK tw w kk kt he k3 hf
        by_cases k4 : R.k = 4
        · exact kind_k4n R b K hK tw w kk kt he k4 hf
        by_cases k5 : R.k = 5
        · exact kind_k5n R b K hK tw w kk kt he k5 hf
        by_cases k6 : R.k = 6
        · exact kind_k6n R b K hK tw w kk kt he k6 hf
        exfalso
        unfold frmB at hf
        simp [k1, k2, k3, k4, k5, k6, k8] at hf
  · rw [if_neg he] at hZ
    subst hZ
    exact kind_bad R b K hK tw w kk kt he
def kndF : Nat → Et → Bool → Int × Int
  | 0, _, _ => (0, 0)
  | d + 1, t, b => kndK ((t []).k : Int) (t []).s.data.toList ((t []).vk : Int) (t []).n (t []).m (twB (nmLs (t []).m (t []).nm)) b (kdsF (fun u => kndF d u b) t.sub 0 (t []).n [])
theorem kind_any (b : Bool) : ∀ (d : Nat) {w : World} {S : Nat → Prop} {t : Et} {v : Value}, LiesE w S d t v → Wfd d t →
    Calls Tryz.prog 8 #[v, .bool b] w fun r w' => r = .returned (.tuple #[.int .i64 (kndF d t b).1, .int .i64 (kndF d t b).2]) ∧ Below w.heap.size w w'
  | 0, _, _, _, _, h, _ => h.elim
  | d + 1, w, S, t, v, h, hW => by
    obtain ⟨kp, kc, np, nc, K, rfl, hN, hK, hk⟩ := h
    have few := hW.1.few
    have hl := kdsF_len (fun u => kndF d u b) t.sub (t []).n 0 []
    exact kind_join (⟨((t []).k : Int), (t []).s, ((t []).vk : Int), (t []).vb, (t []).vn, (t []).vs, kp, (t []).n, kc, np, (t []).m, nc⟩ : XR) b (kdsF (fun u => kndF d u b) t.sub 0 (t []).n []) (by simp at hl; omega) (twB (nmLs (t []).m (t []).nm)) w
      (fun W hB => kinds_any (hK.since (Since.below hB)) (fun i hi => (hk i hi).since (Since.below hB)) (by omega) b (fun u => kndF d u b) (fun W2 i v hi hL => kind_any b d hL (hW.2 i hi)))
      (fun W hB => twice_any (hN.since (Since.below hB)) (by show (t []).m ≤ 1000; omega))
theorem conv_any : ∀ (d : Nat) {w : World} {S : Nat → Prop} {t : Et} {v : Value}, LiesE w S d t v → Wfd d t → Calls Tryz.prog 10 #[v] w (GivesX S w d t)
  | 0, _, _, _, _, h, _ => h.elim
  | d + 1, w, S, t, v, h, hW => by
    have few := hW.1.few
    have h0 := h
    obtain ⟨kp, kc, np, nc, K, rfl, hN, hK, hk⟩ := h
    exact conv_one (R := (⟨((t []).k : Int), (t []).s, ((t []).vk : Int), (t []).vb, (t []).vn, (t []).vs, kp, (t []).n, kc, np, (t []).m, nc⟩ : XR)) h0 (by show (t []).n ≤ 1000; omega) (fun W T i A hi hL => conv_any d hL (hW.2 i hi))
end Go.Proofs.YtcniebkehekliaaGreatDoor
