/- A key in a node or below it, of any depth (with_any). -/
import Derived.Test.YtiplmlalhmldbaaFlt
namespace Go.Proofs.Ytiplmlalhmldbaa
open Go.RowKit Go.Shelf
theorem ok_part {h : Nat} {ts : List (Nd h)} {i : Nat} (hts : ∀ k ∈ ts, Ok h k ∧ 0 < (its h k).length) {us : List (Nd h)} (hus : ∀ k ∈ us, Ok h k ∧ 0 < (its h k).length) : ∀ k ∈ ts.take i ++ us ++ ts.drop (i + 1), Ok h k ∧ 0 < (its h k).length := by
  intro k hk
  rcases List.mem_append.1 hk with hk | hk
  · rcases List.mem_append.1 hk with hk | hk
    · exact hts k (List.mem_of_mem_take hk)
    · exact hus k hk
  · exact hts k (List.mem_of_mem_drop hk)
theorem piece_ok {h : Nat} {t : Nd h} (H : Bal h t) (hp : Pw (flat h t)) (hn : (its h t).length ≤ 50) {m : Nat} (hm : m < (its h t).length) : Ok h (pieceT h t 0 m) ∧ Ok h (pieceT h t (m + 1) (its h t).length) := by
  have pf := piece_flat H hm
  rw [← pf] at hp
  have e5 := List.pairwise_append.1 hp
  have l1 := piece_its h t 0 m
  have l2 := piece_its h t (m + 1) (its h t).length
  refine ⟨ok_of (piece_bal H (by omega) (by omega)) e5.1 (by rw [l1]; simp; omega), ok_of (piece_bal H (by omega) (by omega)) (List.pairwise_cons.1 e5.2.1).2 (by rw [l2]; simp; omega)⟩
theorem with_any : ∀ {h : Nat} {t : Nd h} (x : Im), Bal h t → Pw (flat h t) → (its h t).length ≤ 49 → ∀ {v : Value} {w : World}, Lies w h t v →
    Calls Try.prog 27 #[v, .agg #[.string x.1, .string x.2]] w fun e w' => ∃ v', e = .returned v' ∧ Lies w' h (withT h t x) v' ∧ Below w.heap.size w w'
  | 0, t, x, _, hp, hn, v, w, H => by
    obtain ⟨p, c, q, d, rfl, hS, hQ⟩ := H
    exact with_leaf (its 0 t) ((ris_pw _).2 hp) (by omega) x p c q d w hS hQ
  | h + 1, t, x, B, hp, hn, v, w, H => by
    obtain ⟨p, c, q, d, L, rfl, hS, hQ, hL⟩ := H.open
    have hn : t.1.length ≤ 49 := hn
    have h1 : t.2.length = t.1.length + 1 := B.1
    have hpl := posK_le t.1 x.1
    have wm := with_math x B hp
    have okT : Ok (h + 1) (withT (h + 1) t x) := ok_of wm.1 (by rw [wm.2.1]; exact insF_pw hp x) (by have := wm.2.2.2; have : (its (h + 1) t).length = t.1.length := rfl; omega)
    have hok : ∀ k ∈ t.2, Ok h k ∧ 0 < (its h k).length := fun k hk => ⟨ok_of (B.2 k hk).1 (hp.sublist (kid_sub B hk)) (by have := (B.2 k hk).2.2; omega), by have := (B.2 k hk).2.1; omega⟩
    have hm := getD_mem (l := t.2) (i := posK t.1 x.1) (by omega) (dflt h)
    have hkid := B.2 _ hm
    have hpk := hp.sublist (kid_sub B hm)
    obtain ⟨i1, i2, i3, i4⟩ := with_math x hkid.1 hpk
    have hp2 : Pw (flat h (withT h (t.2.getD (posK t.1 x.1) (dflt h)) x)) := by rw [i2]; exact insF_pw hpk x
    have key := with_inner t.1 t.2 x ((ris_pw _).2 (hp.sublist (its_sub B))) (by omega) h1 hok (withT h (t.2.getD (posK t.1 x.1) (dflt h)) x) (withT (h + 1) t x) okT
      (fun _ W kv hkv => with_any x hkid.1 hpk (by omega) hkv)
      (fun hK W p c q d L kv hS hQ hL hkv => by
        have e : withT (h + 1) t x = withKidT t.1 t.2 (posK t.1 x.1) (withT h (t.2.getD (posK t.1 x.1) (dflt h)) x) := by
          show (if isK t.1 x.1 = true then _ else _) = _
          rw [if_neg (by rw [hK]; decide)]
        rw [e]
        refine withKid_any t.1 t.2 _ (posK t.1 x.1) hpl (by omega) h1 (by omega) (by omega) i1.shp (fun h7 => ?_) (fun h7 => ?_) p c q d W hS L hQ hL kv hkv
        · have po := piece_ok i1 hp2 (by omega) (m := (its h (withT h (t.2.getD (posK t.1 x.1) (dflt h)) x)).length / 2) (by omega)
          have l1 := piece_its h (withT h (t.2.getD (posK t.1 x.1) (dflt h)) x) 0 ((its h (withT h (t.2.getD (posK t.1 x.1) (dflt h)) x)).length / 2)
          have l2 := piece_its h (withT h (t.2.getD (posK t.1 x.1) (dflt h)) x) ((its h (withT h (t.2.getD (posK t.1 x.1) (dflt h)) x)).length / 2 + 1) (its h (withT h (t.2.getD (posK t.1 x.1) (dflt h)) x)).length
          refine ⟨po.1, po.2, ok_part hok ?_, ?_⟩
          · intro k hk
            simp only [List.mem_cons, List.not_mem_nil, or_false] at hk
            rcases hk with rfl | rfl
            · refine ⟨po.1, ?_⟩
              rw [l1, List.length_take, List.length_drop]
              omega
            · refine ⟨po.2, ?_⟩
              rw [l2, List.length_take, List.length_drop]
              omega
          · rw [e] at okT
            unfold withKidT at okT
            rwa [if_pos h7] at okT
        · refine ok_part hok ?_
          intro k hk
          rw [List.mem_singleton] at hk
          rw [hk]
          exact ⟨ok_of i1 hp2 (by omega), by omega⟩)
      p c q d w hS L hQ hL
    have e : (if isK t.1 x.1 = true then mkN (t.1.take (posK t.1 x.1) ++ [x] ++ t.1.drop (posK t.1 x.1 + 1)) t.2 else withT (h + 1) t x) = withT (h + 1) t x := by
      split
      · rename_i hK
        show _ = (if isK t.1 x.1 = true then _ else _)
        rw [if_pos hK]
      · rfl
    rw [e] at key
    exact key
end Go.Proofs.Ytiplmlalhmldbaa
