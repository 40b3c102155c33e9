/- A key taken out of a node or below it, of any depth (without_any); the root instead of one without keys (shrunk); Drop of any depth. -/
import Derived.Test.YtiplmlalhmldbaaWka
import Derived.Test.YtiplmlalhmldbaaWio
import Derived.Test.YtiplmlalhmldbaaGrw
namespace Go.Proofs.Ytiplmlalhmldbaa
open Go.RowKit Go.Shelf
theorem has_isK {xs : List Im} (hp : Pw xs) {k : ByteArray} (hk : hasF xs k = true) : isK xs k = true := by
  cases e : isK xs k with
  | true => rfl
  | false =>
    exfalso
    obtain ⟨y, hy, rfl⟩ := has_mem.1 hk
    have hs := (pos_split hp y.1).1
    have ha := pos_above hp e
    rw [← List.take_append_drop (posK xs y.1) xs] at hy
    rcases List.mem_append.1 hy with h | h
    · have := hs y h; rw [ltB_irrefl] at this; cases this
    · have := ha y h; rw [ltB_irrefl] at this; cases this
theorem without_any : ∀ {h : Nat} {t : Nd h} (key : ByteArray), Bal h t → Pw (flat h t) → hasF (flat h t) key = true → 0 < (its h t).length → (its h t).length ≤ 49 → ∀ {v : Value} {w : World}, Lies w h t v →
    Calls Try.prog 24 #[v, .string key] w fun e w' => ∃ v', e = .returned v' ∧ Lies w' h (withoutT h t key) v' ∧ Below w.heap.size w w'
  | 0, t, key, _, hp, hk, _, hn, v, w, H => by
    obtain ⟨p, c, q, d, rfl, hS, hQ⟩ := H
    exact without_leaf (its 0 t) ((ris_pw _).2 hp) (by omega) key (has_isK hp hk) p c q d w hS
  | h + 1, t, key, B, hp, hk, h0, hn, v, w, H => by
    obtain ⟨p, c, q, d, L, rfl, hS, hQ, hL⟩ := H.open
    have hn : t.1.length ≤ 49 := hn
    have h0 : 0 < t.1.length := h0
    have h1 : t.2.length = t.1.length + 1 := B.1
    have hpl := posK_le t.1 key
    have hpx : Pw t.1 := hp.sublist (its_sub B)
    have wm := without_math key B hp hk h0
    have okT : Ok (h + 1) (withoutT (h + 1) t key) := ok_of wm.1 (by rw [wm.2.1]; exact delF_pw hp key) (by have := wm.2.2.2; have : (its (h + 1) t).length = t.1.length := rfl; omega)
    have hok := ok_kids B hp
    have hm := getD_mem (l := t.2) (i := posK t.1 key) (by omega) (dflt h)
    have hkid := B.2 _ hm
    have hpk := hp.sublist (kid_sub B hm)
    have hfT : Pw (flat (h + 1) (withoutT (h + 1) t key)) := by rw [wm.2.1]; exact delF_pw hp key
    have hold : ∀ k, k ∈ t.2.take (posK t.1 key) ∨ k ∈ t.2.drop (posK t.1 key + 1) → Bal h k ∧ 3 ≤ (its h k).length ∧ (its h k).length ≤ 7 := fun k hk => B.2 k (by
      rcases hk with hk | hk
      · exact List.mem_of_mem_take hk
      · exact List.mem_of_mem_drop hk)
    by_cases hK : isK t.1 key = true
    · obtain ⟨G, hG⟩ := last_flat hkid.1 (by omega)
      have hhas : hasF (flat h (t.2.getD (posK t.1 key) (dflt h))) (lastT h (t.2.getD (posK t.1 key) (dflt h))).1 = true := has_mem.2 ⟨_, by rw [hG]; simp, rfl⟩
      obtain ⟨i1, i2, i3, i4⟩ := without_math _ hkid.1 hpk hhas (by omega)
      have eT : withoutT (h + 1) t key = withKid2T (t.1.take (posK t.1 key) ++ [lastT h (t.2.getD (posK t.1 key) (dflt h))] ++ t.1.drop (posK t.1 key + 1)) t.2 (posK t.1 key) (withoutT h (t.2.getD (posK t.1 key) (dflt h)) (lastT h (t.2.getD (posK t.1 key) (dflt h))).1) := by
        show (if isK t.1 key = true then _ else _) = _
        rw [if_pos hK]
      have hlt := (isK_at hK).1
      have hl : (t.1.take (posK t.1 key) ++ [lastT h (t.2.getD (posK t.1 key) (dflt h))] ++ t.1.drop (posK t.1 key + 1)).length = t.1.length := by simp; omega
      rw [eT] at okT hfT ⊢
      rw [(kid2_math (by omega) (by omega) (by omega) hold i1 (by omega) (by omega)).2.1] at hfT
      exact without_inner t.1 t.2 key ((ris_pw _).2 hpx) (by omega) h1 _ rfl _ rfl _ rfl hkid.1 (by omega) (by omega) _ _ okT _ _ (if_pos hK) (if_pos hK)
        (fun W kv hkv => without_any _ hkid.1 hpk hhas (by omega) (by omega) hkv)
        (fun W p n c q d L kv hS hQ hL hkv => kid2_any (by omega) (by omega) (by omega) (by omega) B.2 hok i1 (by omega) (by omega) hfT W p n c q d L kv hS hQ hL hkv) p c q d w hS L hQ hL
    · have hhas : hasF (flat h (t.2.getD (posK t.1 key) (dflt h))) key = true := by
        have hz := zip_part (h := h) (xs := t.1) (ts := t.2) (i := posK t.1 key) hpl h1
        have hk0 : hasF (zipF t.1 (t.2.map (flat h))) key = true := hk
        have hp0 : Pw (zipF t.1 (t.2.map (flat h))) := hp
        rw [hz] at hk0 hp0
        have e5 := List.pairwise_append.1 hp0
        have e6 := List.pairwise_append.1 e5.1
        have hb := pre_below (by simp; omega) (pos_split hpx key).1 e6.1
        have ha := suf_above (B := t.1.drop (posK t.1 key)) (D := (t.2.drop (posK t.1 key + 1)).map (flat h)) (by simp; omega) (pos_above hpx (by simpa using hK)) e5.2.1
        obtain ⟨y, hy, he⟩ := has_mem.1 hk0
        rcases List.mem_append.1 hy with hy | hy
        · rcases List.mem_append.1 hy with hy | hy
          · have := hb y hy; rw [he, ltB_irrefl] at this; cases this
          · exact has_mem.2 ⟨y, hy, he⟩
        · have := ha y hy; rw [he, ltB_irrefl] at this; cases this
      obtain ⟨i1, i2, i3, i4⟩ := without_math key hkid.1 hpk hhas (by omega)
      have eT : withoutT (h + 1) t key = withKid2T t.1 t.2 (posK t.1 key) (withoutT h (t.2.getD (posK t.1 key) (dflt h)) key) := by
        show (if isK t.1 key = true then _ else _) = _
        rw [if_neg hK]
      rw [eT] at okT hfT ⊢
      rw [(kid2_math hpl h0 h1 hold i1 (by omega) (by omega)).2.1] at hfT
      exact without_inner t.1 t.2 key ((ris_pw _).2 hpx) (by omega) h1 _ rfl _ rfl _ rfl hkid.1 (by omega) (by omega) _ _ okT _ _ (if_neg hK) (if_neg hK)
        (fun W kv hkv => without_any _ hkid.1 hpk hhas (by omega) (by omega) hkv)
        (fun W p n c q d L kv hS hQ hL hkv => kid2_any hpl h0 hn h1 B.2 hok i1 (by omega) (by omega) hfT W p n c q d L kv hS hQ hL hkv) p c q d w hS L hQ hL
end Go.Proofs.Ytiplmlalhmldbaa
