/- A tree beside the model's list of pairs (PB): what each act tells of both, and leaves. -/
import Derived.Test.YtiplmlalhmldbaaDrp
import Derived.Test.YtiplmlalhmldbaaLdr
import Derived.Test.YtiplmlalhmldbaaSpw
namespace Go.Proofs.Ytiplmlalhmldbaa
open Go.RowKit Go.Shelf
/- How many keys there are at least. -/
theorem zipS_len (c : Nat) : ∀ (xs : List Im) (ks : List (List Im)), ks.length = xs.length → (∀ k ∈ ks, c ≤ k.length) → xs.length * (c + 1) ≤ (zipS xs ks).length
  | [], _, _, _ => by simp
  | x :: xs, [], h, _ => by simp at h
  | x :: xs, k :: ks, h, hc => by
    have ih := zipS_len c xs ks (by simpa using h) (fun k hk => hc k (List.mem_cons_of_mem _ hk))
    have h1 := hc k List.mem_cons_self
    have e : zipS (x :: xs) (k :: ks) = x :: (k ++ zipS xs ks) := by simp [zipS]
    rw [e, List.length_cons, List.length_cons, List.length_append, Nat.add_mul, Nat.one_mul]
    omega
theorem zipF_len (c : Nat) (xs : List Im) (ks : List (List Im)) (h : ks.length = xs.length + 1) (hc : ∀ k ∈ ks, c ≤ k.length) : xs.length * (c + 1) + c ≤ (zipF xs ks).length := by
  cases ks with
  | nil => simp at h
  | cons k ks =>
    have h1 := zipS_len c xs ks (by simpa using h) (fun k hk => hc k (List.mem_cons_of_mem _ hk))
    have h2 := hc k List.mem_cons_self
    show _ ≤ (k ++ zipS xs ks).length
    rw [List.length_append]
    omega
theorem flat_ge : ∀ {h : Nat} {t : Nd h}, Bal h t → 3 ≤ (its h t).length → 4 ^ (h + 1) ≤ (flat h t).length + 1
  | 0, _, _, h3 => by
    show 4 ^ 1 ≤ _ + 1
    have : 3 ≤ (flat 0 _).length := h3
    omega
  | h + 1, t, B, h3 => by
    have h1 : t.2.length = t.1.length + 1 := B.1
    have h3 : 3 ≤ t.1.length := h3
    have hz := zipF_len (4 ^ (h + 1) - 1) t.1 (t.2.map (flat h)) (by simpa using h1) (fun k hk => by
      obtain ⟨u, hu, rfl⟩ := List.mem_map.1 hk
      have := flat_ge (B.2 u hu).1 (B.2 u hu).2.1
      omega)
    show 4 ^ (h + 1 + 1) ≤ (zipF t.1 (t.2.map (flat h))).length + 1
    have hp : 0 < 4 ^ (h + 1) := Nat.pow_pos (by decide)
    rw [Nat.sub_add_cancel hp] at hz
    have h4 : 3 * 4 ^ (h + 1) ≤ t.1.length * 4 ^ (h + 1) := Nat.mul_le_mul_right _ h3
    rw [Nat.pow_succ]
    omega
theorem root_ge {h : Nat} {t : Nd (h + 1)} (R : Rt (h + 1) t) : 2 * 4 ^ (h + 1) ≤ (flat (h + 1) t).length + 1 := by
  have h1 : t.2.length = t.1.length + 1 := R.bal.1
  have h3 : 0 < t.1.length := by
    rcases R.some with h | h
    · omega
    · exact h
  have hz := zipF_len (4 ^ (h + 1) - 1) t.1 (t.2.map (flat h)) (by simpa using h1) (fun k hk => by
    obtain ⟨u, hu, rfl⟩ := List.mem_map.1 hk
    have := flat_ge (R.bal.2 u hu).1 (R.bal.2 u hu).2.1
    omega)
  show 2 * 4 ^ (h + 1) ≤ (zipF t.1 (t.2.map (flat h))).length + 1
  have hp : 0 < 4 ^ (h + 1) := Nat.pow_pos (by decide)
  rw [Nat.sub_add_cancel hp] at hz
  have h4 : 1 * 4 ^ (h + 1) ≤ t.1.length * 4 ^ (h + 1) := Nat.mul_le_mul_right _ h3
  omega
theorem root_low {h : Nat} {t : Nd h} (R : Rt h t) (hn : (flat h t).length ≤ 1000) : h ≤ 4 := by
  cases h with
  | zero => omega
  | succ h =>
    have h1 := root_ge R
    rcases Nat.lt_or_ge h 4 with h2 | h2
    · omega
    · have h3 : 4 ^ (4 + 1) ≤ 4 ^ (h + 1) := Nat.pow_le_pow_right (by decide) (by omega)
      have h4 : (4 : Nat) ^ (4 + 1) = 1024 := by decide
      omega
theorem isK_has {xs : List Im} {k : ByteArray} (h : isK xs k = true) : hasF xs k = true := by
  obtain ⟨h1, h2⟩ := isK_at h
  refine has_mem.2 ⟨_, ?_, h2⟩
  rw [getElem!_pos xs _ h1]
  exact List.getElem_mem h1
theorem isK_eq {xs : List Im} (hp : Pw xs) (k : ByteArray) : isK xs k = hasF xs k := by
  cases e : hasF xs k with
  | true => exact has_isK hp e
  | false =>
    cases e2 : isK xs k with
    | false => rfl
    | true => rw [isK_has e2] at e; cases e
theorem insF_lenE {xs : List Im} (hp : Pw xs) (x : Im) : (insF xs x).length = if hasF xs x.1 then xs.length else xs.length + 1 := by
  have hpl := posK_le xs x.1
  rw [← insK_insF hp, ← isK_eq hp]
  unfold insK
  split
  · have := isK_lt (xs := xs) (key := x.1) (by assumption)
    simp
    omega
  · simp
    omega
theorem delF_lenE {xs : List Im} (hp : Pw xs) {k : ByteArray} (hk : hasF xs k = true) : (delF xs k).length = xs.length - 1 ∧ 0 < xs.length := by
  have hK := has_isK hp hk
  have := isK_lt hK
  rw [← delK_delF hp hK]
  unfold delK
  refine ⟨?_, by omega⟩
  simp
  omega
theorem lput_all (xs : List Im) (hr : Ris xs) (hn : xs.length ≤ 900) (key x : ByteArray) (p : Option Addr) (c : Nat) (w : World) (hS : Sl w p xs.length c (itC xs)) :
    Calls Try.prog 13 #[.slice p xs.length c, .string key, .string x] w fun e w' => ∃ q d, e = .returned (.tuple #[.slice q (insK xs (key, x)).length d, .bool (!isK xs key)]) ∧
      Sl w' q (insK xs (key, x)).length d (itC (insK xs (key, x))) ∧ Below w.heap.size w w' := by
  cases h : isK xs key with
  | true =>
    refine (lput_old xs hr hn key x h p c w hS).mono ?_
    rintro e w1 ⟨q, d, rfl, h1, h2⟩
    have hh := h1.it
    rw [hh] at h1
    rw [hh]
    exact ⟨q, d, rfl, h1, h2⟩
  | false =>
    refine (lput_new xs hr hn key x h p c w hS).mono ?_
    rintro e w1 ⟨q, d, rfl, h1, h2⟩
    have hh := h1.it
    rw [hh] at h1
    rw [hh]
    exact ⟨q, d, rfl, h1, h2⟩
structure PB (w wr : World) (b : Nat) (lo hi : ByteArray) (i : Nat) (q : Option Addr) (m d : Nat) : Prop where
  ex : ∃ (h : Nat) (t : Nd h), Rt h t ∧ Tr wr b h t m ∧ (flat h t).length = m ∧ m ≤ i ∧ Sl wr q m d (itC (flat h t))
  bx : wr.heap[w.heap.size]? = some (.cells #[.string lo, .string hi] 24 (0, 0))
  bel : Below w.heap.size w wr
  bb : w.heap.size < b
theorem PB.later {w wr w2 : World} {b : Nat} {lo hi : ByteArray} {i : Nat} {q : Option Addr} {m d : Nat} (H : PB w wr b lo hi i q m d) (hb : Below wr.heap.size wr w2) : PB w w2 b lo hi i q m d := by
  obtain ⟨h, t, h1, h2, h3, h4, h5⟩ := H.ex
  exact ⟨⟨h, t, h1, h2.later hb, h3, h4, h5.later hb⟩, (hb.block _ (lt_of_row H.bx)).trans H.bx, H.bel.trans (hb.mono H.bel.size), H.bb⟩
theorem PB.up {w wr : World} {b : Nat} {lo hi : ByteArray} {i : Nat} {q : Option Addr} {m d : Nat} (H : PB w wr b lo hi i q m d) : PB w wr b lo hi (i + 1) q m d := by
  obtain ⟨h, t, h1, h2, h3, h4, h5⟩ := H.ex
  exact ⟨⟨h, t, h1, h2, h3, Nat.le_succ_of_le h4, h5⟩, H.bx, H.bel, H.bb⟩
/- The tree has changed, the model's list was made beside it. -/
theorem PB.next {w w1 w2 : World} {b : Nat} {lo hi : ByteArray} {i : Nat} {q : Option Addr} {m d h0 : Nat} {t0 : Nd h0} {n0 : Nat} (T0 : Tr w1 b h0 t0 n0) (hbx : w1.heap[w.heap.size]? = some (.cells #[.string lo, .string hi] 24 (0, 0))) (hbel : Below w.heap.size w w1) (hbb : w.heap.size < b) (ho : Onl b w1 w2)
    {h : Nat} {t : Nd h} (R : Rt h t) (T : Tr w2 b h t m) (hm : (flat h t).length = m) (hmi : m ≤ i) (hS : Sl w1 q m d (itC (flat h t))) : PB w w2 b lo hi i q m d := by
  obtain ⟨p0, c0, q0, d0, g1, g2⟩ := T0.ex
  have lb := lt_of_row hbx
  refine ⟨⟨h, t, R, T, hm, hmi, hS.off2 g1 (by intro s hs; simp at hs) ho.size ho.block⟩, (ho.block _ lb (by omega)).trans hbx, ?_, hbb⟩
  have := hbel.size
  exact hbel.trans (ho.below (by omega) (by omega))
theorem PB.drop {w wr : World} {b : Nat} {lo hi : ByteArray} {i : Nat} {q : Option Addr} {m d : Nat} (H : PB w wr b lo hi i q m d) (h3 : i < 300) (k : ByteArray) :
    Calls Try.prog 9 #[.slice q m d, .string k] wr fun e w1 => ∃ q2 m2 d2 r, e = .returned (.tuple #[.slice q2 m2 d2, .bool r]) ∧ Calls Try.prog 10 #[.pointer (some ⟨b, 0, none⟩), .string k] w1 fun e w2 => e = .returned (.bool r) ∧ PB w w2 b lo hi (i + 1) q2 m2 d2 := by
  obtain ⟨h, t, R, T, hm, hmi, hS⟩ := H.ex
  subst hm
  have hr := (ris_pw _).2 R.pw
  cases hk : isK (flat h t) k with
  | false =>
    have hh := hk
    rw [isK_eq R.pw] at hh
    refine (ldrop_no _ hr (by omega) k hk q d wr hS).mono ?_
    rintro e w1 ⟨rfl, hb1⟩
    refine ⟨q, _, d, false, rfl, (drop_any R k b _ (fun h => by rw [hh] at h; cases h) (by omega) w1 (T.later hb1)).mono ?_⟩
    rintro e w2 ⟨rfl, ⟨h3, t3, R3, f3, T3⟩, ho⟩
    rw [hh, if_neg Bool.false_ne_true] at f3 T3
    have H1 := H.later hb1
    refine ⟨by rw [hh], PB.next (T.later hb1) H1.bx H1.bel H1.bb ho R3 T3 (by rw [f3]) (by omega) ?_⟩
    rw [f3]
    exact hS.later hb1
  | true =>
    have hh := isK_has hk
    obtain ⟨l1, l2⟩ := delF_lenE R.pw hh
    refine (ldrop_yes _ hr (by omega) k hk q d wr hS).mono ?_
    rintro e w1 ⟨q2, d2, rfl, s2, hb1⟩
    refine ⟨q2, _, d2, true, rfl, (drop_any R k b _ (fun _ => l2) (by omega) w1 (T.later hb1)).mono ?_⟩
    rintro e w2 ⟨rfl, ⟨h3, t3, R3, f3, T3⟩, ho⟩
    rw [hh, if_pos rfl] at f3 T3
    rw [delK_delF R.pw hk] at s2 ⊢
    rw [← l1] at T3
    have H1 := H.later hb1
    refine ⟨by rw [hh], PB.next (T.later hb1) H1.bx H1.bel H1.bb ho R3 T3 (by rw [f3]) (by omega) ?_⟩
    rw [f3]
    exact s2
theorem PB.put {w wr : World} {b : Nat} {lo hi : ByteArray} {i : Nat} {q : Option Addr} {m d : Nat} (H : PB w wr b lo hi i q m d) (h3 : i < 300) (k v : ByteArray) :
    Calls Try.prog 13 #[.slice q m d, .string k, .string v] wr fun e w1 => ∃ q2 m2 d2 r, e = .returned (.tuple #[.slice q2 m2 d2, .bool r]) ∧ Calls Try.prog 14 #[.pointer (some ⟨b, 0, none⟩), .string k, .string v] w1 fun e w2 => e = .returned (.bool r) ∧ PB w w2 b lo hi (i + 1) q2 m2 d2 := by
  obtain ⟨h, t, R, T, hm, hmi, hS⟩ := H.ex
  subst hm
  have hr := (ris_pw _).2 R.pw
  have hg := congrArg Prod.snd (getT_flat k R.bal R.pw)
  rw [getF_has] at hg
  have hl := insF_lenE R.pw (k, v)
  refine (lput_all _ hr (by omega) k v q d wr hS).mono ?_
  rintro e w1 ⟨q2, d2, rfl, s2, hb1⟩
  refine ⟨q2, _, d2, _, rfl, (put_any R (k, v) b _ (by omega) w1 (T.later hb1)).mono ?_⟩
  rintro e w2 ⟨rfl, ⟨h3, t3, R3, f3, T3⟩, ho⟩
  rw [hg, ← hl] at T3
  rw [insK_insF R.pw] at s2 ⊢
  have H1 := H.later hb1
  refine ⟨by rw [hg, isK_eq R.pw], PB.next (T.later hb1) H1.bx H1.bel H1.bb ho R3 T3 (by rw [f3]) ?_ ?_⟩
  · rw [hl]
    split <;> omega
  · rw [f3]
    exact s2
theorem PB.get {w wr : World} {b : Nat} {lo hi : ByteArray} {i : Nat} {q : Option Addr} {m d : Nat} (H : PB w wr b lo hi i q m d) (h3 : i < 300) (k : ByteArray) :
    Calls Try.prog 11 #[.slice q m d, .string k] wr fun e w1 => ∃ (at' : Nat) (is : Bool), e = .returned (.tuple #[.int .i64 (at' : Int), .bool is]) ∧ Calls Try.prog 12 #[.pointer (some ⟨b, 0, none⟩), .string k] w1 fun e w2 => ∃ val, e = .returned (.tuple #[.string val, .bool is]) ∧
      PB w w2 b lo hi (i + 1) q m d ∧ (is = false → val = ⟨#[]⟩) ∧ (is = true → at' < m ∧ m ≤ d ∧ d ≤ maxLen ∧ ∃ bb oo, q = some ⟨bb, oo, none⟩ ∧ w2.cell? ⟨bb, oo + at' * 2 + 1, none⟩ = some (.string val)) := by
  obtain ⟨h, t, R, T, hm, hmi, hS⟩ := H.ex
  subst hm
  have hr := (ris_pw _).2 R.pw
  have hg := getT_flat k R.bal R.pw
  rw [← getT_zero R.pw] at hg
  refine (lfind_any _ hr (by omega) k q d wr hS).mono ?_
  rintro e w1 ⟨rfl, hb1⟩
  refine ⟨_, _, rfl, (tget_any b h t R.ok _ k w1 (T.later hb1)).mono ?_⟩
  rintro e w2 ⟨rfl, hb2⟩
  rw [hg]
  have hb12 := hb1.trans (hb2.mono hb1.size)
  cases hk : isK (flat h t) k with
  | false =>
    rw [if_neg Bool.false_ne_true]
    exact ⟨_, rfl, (H.later hb12).up, fun _ => rfl, fun h => (by cases h)⟩
  | true =>
    rw [if_pos rfl]
    have hlt := isK_lt hk
    refine ⟨_, rfl, (H.later hb12).up, fun h => (by cases h), fun _ => ⟨hlt, hS.cap.1, hS.cap.2, ?_⟩⟩
    obtain ⟨bb, oo, rfl, hb, hc⟩ := hS.lies (by omega)
    refine ⟨bb, oo, rfl, ?_⟩
    have := hc _ _ (itC_at _ _ hlt).2
    rw [show oo + (2 * posK (flat h t) k + 1) = oo + posK (flat h t) k * 2 + 1 by omega] at this
    exact (cell_later hb12 hb).trans this
theorem PB.len {w wr : World} {b : Nat} {lo hi : ByteArray} {i : Nat} {q : Option Addr} {m d : Nat} (H : PB w wr b lo hi i q m d) :
    Calls Try.prog 15 #[.pointer (some ⟨b, 0, none⟩)] wr fun e w1 => e = .returned (.int .i64 (m : Int)) ∧ PB w w1 b lo hi i q m d := by
  obtain ⟨h, t, R, T, hm, hmi, hS⟩ := H.ex
  refine (len_any b h t m wr T).mono ?_
  rintro e w1 ⟨rfl, hb1⟩
  exact ⟨rfl, H.later hb1⟩
theorem PB.deep {w wr : World} {b : Nat} {lo hi : ByteArray} {i : Nat} {q : Option Addr} {m d : Nat} (H : PB w wr b lo hi i q m d) (hi3 : i ≤ 600) :
    Calls Try.prog 16 #[.pointer (some ⟨b, 0, none⟩)] wr fun e w1 => (∃ k : Nat, k ≤ 4 ∧ e = .returned (.int .i64 ((k : Int) + 1))) ∧ PB w w1 b lo hi i q m d := by
  obtain ⟨h, t, R, T, hm, hmi, hS⟩ := H.ex
  have hl := root_low R (by omega)
  refine (deep_any R (by omega) b m wr T).mono ?_
  rintro e w1 ⟨rfl, hb1⟩
  exact ⟨⟨h, hl, rfl⟩, H.later hb1⟩
theorem inS_all (xs : List Im) : inS ⟨#[]⟩ ⟨#[]⟩ xs = xs := by
  refine filter_lo (fun y _ => ?_)
  have e : (⟨#[]⟩ : ByteArray).toList = [] := by kernel_rfl
  refine hasB_open ?_ (by rw [e]; rfl)
  rw [e]
  cases y.1.toList <;> rfl
theorem PB.same {w wr : World} {b : Nat} {lo hi : ByteArray} {i : Nat} {q : Option Addr} {m d : Nat} (H : PB w wr b lo hi i q m d) (hi3 : i ≤ 300) :
    Calls Try.prog 18 #[.pointer (some ⟨b, 0, none⟩), .agg #[.string ⟨#[]⟩, .string ⟨#[]⟩], .slice q m d] wr fun e w1 => e = .returned (.bool true) ∧ Below wr.heap.size wr w1 := by
  obtain ⟨h, t, R, T, hm, hmi, hS⟩ := H.ex
  subst hm
  have hsp := span_flat ⟨#[]⟩ ⟨#[]⟩ R.bal R.pw
  rw [inS_all] at hsp
  exact same_any R.ok _ b _ _ _ hsp (by omega) q d wr T hS
theorem PB.insp {w wr : World} {b : Nat} {lo hi : ByteArray} {i : Nat} {q : Option Addr} {m d : Nat} (H : PB w wr b lo hi i q m d) (hi3 : i ≤ 300) : ∃ L : List Im,
    (∀ W, Below wr.heap.size wr W → Calls Try.prog 19 #[.slice q m d, .agg #[.string lo, .string hi]] W fun e w1 => ∃ q2 d2, e = .returned (.slice q2 L.length d2) ∧ Sl w1 q2 L.length d2 (itC L) ∧ Below W.heap.size W w1) ∧
    (∀ W q2 d2, Below wr.heap.size wr W → Sl W q2 L.length d2 (itC L) → Calls Try.prog 18 #[.pointer (some ⟨b, 0, none⟩), .agg #[.string lo, .string hi], .slice q2 L.length d2] W fun e w1 => e = .returned (.bool true) ∧ Below W.heap.size W w1) := by
  obtain ⟨h, t, R, T, hm, hmi, hS⟩ := H.ex
  subst hm
  have hsp := span_flat lo hi R.bal R.pw
  have hl : (inS lo hi (flat h t)).length ≤ (flat h t).length := List.length_filter_le _ _
  exact ⟨inS lo hi (flat h t), fun W hb => lin_any _ (by omega) lo hi q d W (hS.later hb), fun W q2 d2 hb s2 => same_any R.ok _ b lo hi _ hsp (by omega) q2 d2 W (T.later hb) s2⟩
end Go.Proofs.Ytiplmlalhmldbaa
