/- Keys are ordered as values are, and none begins with another one's: plain facts on lists of bytes. What is in a span (Has), in none (Empty), in all (All), the lower end (lower): of any spans and keys. The least text above all that begin with one (Next), of any text. -/
import Derived.Test.YtfcenidepkjdcaaDoorXal
import Derived.Test.YtfcenidepkjdcaaDoorXai
import Derived.RegionTactic
import Derived.StillTailTactics
import Derived.Test.YtfcenidepkjdcaaDoorXaf
namespace Go.Proofs.YtfcenidepkjdcaaDoor.V
open Go.RowKit
/- One of two lists begins with the other. -/
def Comp (p q : List UInt8) : Prop := p <+: q ∨ q <+: p
theorem Comp.symm {p q : List UInt8} (h : Comp p q) : Comp q p := Or.symm h
theorem Comp.refl (p : List UInt8) : Comp p p := Or.inl (List.prefix_refl p)
theorem comp_cons {a b : UInt8} {p q : List UInt8} : Comp (a :: p) (b :: q) ↔ a = b ∧ Comp p q := by
  unfold Comp
  rw [List.cons_prefix_cons, List.cons_prefix_cons]
  constructor
  · rintro (⟨h, k⟩ | ⟨h, k⟩)
    · exact ⟨h, Or.inl k⟩
    · exact ⟨h.symm, Or.inr k⟩
  · rintro ⟨h, k | k⟩
    · exact Or.inl ⟨h, k⟩
    · exact Or.inr ⟨h.symm, k⟩
theorem comp_left {p q x y : List UInt8} (h : Comp (p ++ x) (q ++ y)) : Comp p q := by
  rcases h with h | h
  · exact (List.prefix_or_prefix_of_prefix ((List.prefix_append p x).trans h) (List.prefix_append q y))
  · exact (List.prefix_or_prefix_of_prefix (List.prefix_append p x) ((List.prefix_append q y).trans h))
theorem comp_append {p x y : List UInt8} : Comp (p ++ x) (p ++ y) ↔ Comp x y := by
  unfold Comp
  rw [List.prefix_append_right_inj, List.prefix_append_right_inj]
theorem lt8_apart {p q : List UInt8} (h : ¬ Comp p q) (x y : List UInt8) : lt8 (p ++ x) (q ++ y) = lt8 p q := by
  induction p generalizing q with
  | nil => exact absurd (Or.inl List.nil_prefix) h
  | cons a p ih =>
    cases q with
    | nil => exact absurd (Or.inr List.nil_prefix) h
    | cons b q =>
      rw [List.cons_append, List.cons_append, lt8_cons, lt8_cons]
      by_cases e : a = b
      · subst e
        rw [ih (fun k => h (comp_cons.2 ⟨rfl, k⟩))]
      · have e' : (a == b) = false := by simpa using e
        rw [e']
        simp
/- Texts between noughts. -/
theorem esc_ff {s t x y : List UInt8} (h : Comp (escL s ++ 0 :: 1 :: x) (escL t ++ 0 :: 1 :: y)) : s = t := by
  induction s generalizing t with
  | nil =>
    cases t with
    | nil => rfl
    | cons d t =>
      exfalso
      rw [escL, escL, List.nil_append, List.cons_append, comp_cons] at h
      obtain ⟨rfl, h⟩ := h
      rw [if_pos rfl, List.cons_append, comp_cons] at h
      exact absurd h.1 (by decide)
  | cons c s ih =>
    cases t with
    | nil =>
      exfalso
      rw [escL, escL, List.nil_append, List.cons_append, comp_cons] at h
      obtain ⟨rfl, h⟩ := h
      rw [if_pos rfl, List.cons_append, comp_cons] at h
      exact absurd h.1 (by decide)
    | cons d t =>
      rw [escL, escL, List.cons_append, List.cons_append, comp_cons] at h
      obtain ⟨rfl, h⟩ := h
      by_cases h0 : c = 0
      · rw [if_pos h0, if_pos h0, List.cons_append, List.cons_append, comp_cons] at h
        rw [ih h.2]
      · rw [if_neg h0, if_neg h0] at h
        rw [ih h]
theorem esc_lt {s t : List UInt8} (hne : s ≠ t) (x y : List UInt8) : lt8 (escL s ++ 0 :: 1 :: x) (escL t ++ 0 :: 1 :: y) = lt8 s t := by
  induction s generalizing t with
  | nil =>
    cases t with
    | nil => exact absurd rfl hne
    | cons d t =>
      rw [lt8_nil_l, escL, escL, List.nil_append, List.cons_append, lt8_cons]
      by_cases h0 : d = 0
      · subst h0
        rw [if_pos rfl, List.cons_append, lt8_cons]
        rfl
      · have : (0 : UInt8) < d := by
          rw [u8_lt]
          have h1 : d.toNat ≠ 0 := fun e => h0 (u8_eq.2 e)
          have h2 : (0 : UInt8).toNat = 0 := rfl
          omega
        simp [this]
  | cons c s ih =>
    cases t with
    | nil =>
      rw [lt8_nil_r, escL, escL, List.nil_append, List.cons_append, lt8_cons]
      by_cases h0 : c = 0
      · subst h0
        rw [if_pos rfl, List.cons_append, lt8_cons]
        rfl
      · have h1 : ¬ c < 0 := by rw [u8_lt]; have h2 : (0 : UInt8).toNat = 0 := rfl; omega
        simp [h0, h1]
    | cons d t =>
      rw [lt8_cons, escL, escL, List.cons_append, List.cons_append, lt8_cons]
      by_cases e : c = d
      · subst e
        have hne' : s ≠ t := fun k => hne (by rw [k])
        by_cases h0 : c = 0
        · rw [if_pos h0, if_pos h0, List.cons_append, List.cons_append, lt8_cons, ih hne']
          simp
        · rw [if_neg h0, if_neg h0, ih hne']
      · have e' : (c == d) = false := by simpa using e
        rw [e']
        simp
theorem ktext_list (s : ByteArray) (x : List UInt8) : ktextL s ++ x = escL s.data.toList ++ 0 :: 1 :: x := by
  unfold ktextL
  simp
theorem ktext_ff {s t : ByteArray} {x y : List UInt8} (h : Comp (ktextL s ++ x) (ktextL t ++ y)) : s = t := by
  rw [ktext_list, ktext_list] at h
  exact ByteArray.ext (Array.ext' (esc_ff h))
theorem ktext_lt {s t : ByteArray} (hne : s ≠ t) (x y : List UInt8) : lt8 (ktextL s ++ x) (ktextL t ++ y) = lt8 s.data.toList t.data.toList := by
  rw [ktext_list, ktext_list]
  exact esc_lt (fun e => hne (ByteArray.ext (Array.ext' e))) x y
/- Numbers, the highest byte first. -/
def val8 : List UInt8 → Nat
  | [] => 0
  | c :: r => c.toNat * 256 ^ r.length + val8 r
theorem val8_lt (l : List UInt8) : val8 l < 256 ^ l.length := by
  induction l with
  | nil => decide
  | cons c r ih =>
    rw [val8, List.length_cons, Nat.pow_succ]
    have h1 := c.toNat_lt
    have h2 : c.toNat * 256 ^ r.length ≤ 255 * 256 ^ r.length := Nat.mul_le_mul_right _ (by omega)
    omega
theorem lt8_val {p q : List UInt8} (h : p.length = q.length) : lt8 p q = decide (val8 p < val8 q) := by
  induction p generalizing q with
  | nil =>
    cases q with
    | nil => rfl
    | cons d q => cases h
  | cons c p ih =>
    cases q with
    | nil => cases h
    | cons d q =>
      have hl : p.length = q.length := by simpa using h
      have hp := val8_lt p
      have hq := val8_lt q
      rw [lt8_cons, ih hl, val8, val8, hl]
      rw [hl] at hp
      obtain ⟨M, hM⟩ : ∃ M, 256 ^ q.length = M := ⟨_, rfl⟩
      rw [hM] at hp hq ⊢
      rcases Nat.lt_trichotomy c.toNat d.toNat with k | k | k
      · have h2 : c.toNat * M + M ≤ d.toNat * M := by
          have := Nat.mul_le_mul_right M (show c.toNat + 1 ≤ d.toNat from k)
          rw [Nat.add_mul, Nat.one_mul] at this
          exact this
        rw [decide_eq_true (show c < d from u8_lt.2 k), decide_eq_true (show c.toNat * M + val8 p < d.toNat * M + val8 q by omega)]
        rfl
      · have e : c = d := u8_eq.2 k
        subst e
        simp
      · have h2 : d.toNat * M + M ≤ c.toNat * M := by
          have := Nat.mul_le_mul_right M (show d.toNat + 1 ≤ c.toNat from k)
          rw [Nat.add_mul, Nat.one_mul] at this
          exact this
        have e : (c == d) = false := by
          have : c ≠ d := fun e => by rw [e] at k; omega
          simpa using this
        rw [decide_eq_false (show ¬ c < d by rw [u8_lt]; omega), e, decide_eq_false (show ¬ c.toNat * M + val8 p < d.toNat * M + val8 q by omega)]
        rfl
theorem be8_val (n : Nat) (h : n < 18446744073709551616) : val8 (be8 n) = n := by
  have e : be8 n = [UInt8.ofNat (n / 2 ^ 56), UInt8.ofNat (n / 2 ^ 48), UInt8.ofNat (n / 2 ^ 40), UInt8.ofNat (n / 2 ^ 32), UInt8.ofNat (n / 2 ^ 24), UInt8.ofNat (n / 2 ^ 16), UInt8.ofNat (n / 2 ^ 8), UInt8.ofNat (n / 2 ^ 0)] := rfl
  rw [e]
  simp only [val8, List.length_cons, List.length_nil, UInt8.toNat_ofNat']
  omega
theorem be8_lt (n m : Nat) (hn : n < 18446744073709551616) (hm : m < 18446744073709551616) : lt8 (be8 n) (be8 m) = decide (n < m) := by
  rw [lt8_val (by rw [be8_len, be8_len]), be8_val n hn, be8_val m hm]
theorem be8_inj {n m : Nat} (hn : n < 18446744073709551616) (hm : m < 18446744073709551616) (h : be8 n = be8 m) : n = m := by
  rw [← be8_val n hn, ← be8_val m hm, h]
theorem comp_len {p q : List UInt8} (h : Comp p q) (hl : p.length = q.length) : p = q := by
  rcases h with h | h
  · exact h.eq_of_length hl
  · exact (h.eq_of_length hl.symm).symm
/- A row of parts, a nought behind it. -/
def rowT (m : Nat) (F : Nat → List UInt8) : List UInt8 := cat m F ++ [0]
theorem cat_front (m : Nat) (F : Nat → List UInt8) : cat (m + 1) F = F 0 ++ cat m (fun i => F (i + 1)) := by
  induction m with
  | zero => simp [cat]
  | succ m ih =>
    show cat (m + 1) F ++ F (m + 1) = _
    rw [ih, List.append_assoc]
    rfl
theorem row_front (m : Nat) (F : Nat → List UInt8) : rowT (m + 1) F = F 0 ++ rowT m (fun i => F (i + 1)) := by
  unfold rowT
  rw [cat_front, List.append_assoc]
theorem row_ff {m l : Nat} {F G : Nat → List UInt8} (hF : ∀ i, i < m → ∃ r, F i = 1 :: r) (hG : ∀ i, i < l → ∃ r, G i = 1 :: r)
    (hFG : ∀ i, i < m → i < l → Comp (F i) (G i) → F i = G i) (h : Comp (rowT m F) (rowT l G)) : rowT m F = rowT l G := by
  induction m generalizing l F G with
  | zero =>
    cases l with
    | zero => rfl
    | succ l =>
      exfalso
      obtain ⟨r, hr⟩ := hG 0 (by omega)
      rw [row_front, hr] at h
      have h' : Comp (0 :: []) (1 :: (r ++ rowT l (fun i => G (i + 1)))) := h
      exact absurd (comp_cons.1 h').1 (by decide)
  | succ m ih =>
    cases l with
    | zero =>
      exfalso
      obtain ⟨r, hr⟩ := hF 0 (by omega)
      rw [row_front, hr] at h
      have h' : Comp (1 :: (r ++ rowT m (fun i => F (i + 1)))) (0 :: []) := h
      exact absurd (comp_cons.1 h').1 (by decide)
    | succ l =>
      rw [row_front, row_front] at h ⊢
      have e := hFG 0 (by omega) (by omega) (comp_left h)
      rw [e, comp_append] at h
      rw [e, ih (fun i hi => hF (i + 1) (by omega)) (fun i hi => hG (i + 1) (by omega)) (fun i h1 h2 hc => hFG (i + 1) (by omega) (by omega) hc) h]
theorem key_head {t : Tr} {d : Int} (h : soundT t d = 0) : 0 ≤ t.k ∧ t.k ≤ 6 ∧ ∃ r, keyT t = UInt8.ofNat t.k.toNat :: r := by
  cases t with
  | no => exact ⟨by decide, by decide, [], rfl⟩
  | mk k b n s m f q g =>
    have hP := soundP h
    exact ⟨hP.k0, hP.k6, _, by rw [keyT]; rfl⟩
theorem kind_byte {a b : Int} (ha : 0 ≤ a) (ha6 : a ≤ 6) (hb : 0 ≤ b) (hb6 : b ≤ 6) (h : UInt8.ofNat a.toNat = UInt8.ofNat b.toNat) : a = b := by
  have := u8_eq.1 h
  rw [toNat_ofNat_lt (by omega), toNat_ofNat_lt (by omega)] at this
  omega
theorem kind_eq {a b : Tr} {d d' : Int} (ha : soundT a d = 0) (hb : soundT b d' = 0) (h : Comp (keyT a) (keyT b)) : a.k = b.k := by
  obtain ⟨a0, a6, r, hr⟩ := key_head ha
  obtain ⟨b0, b6, r', hr'⟩ := key_head hb
  rw [hr, hr', comp_cons] at h
  exact kind_byte a0 a6 b0 b6 h.1
def partF (k : Int) (f : Nat → Tr) (g : Nat → ByteArray) (i : Nat) : List UInt8 := 1 :: ((if k = 6 then ktextL (g i) else []) ++ keyT (f i))
theorem key_no {k : Int} {b : Bool} {n : Int} {s : ByteArray} {m : Nat} {f : Nat → Tr} {q : Nat} {g : Nat → ByteArray} (h : k = 0) : keyT (.mk k b n s m f q g) = [0] := by subst h; simp [keyT]
theorem key_bool {b : Bool} {n : Int} {s : ByteArray} {m : Nat} {f : Nat → Tr} {q : Nat} {g : Nat → ByteArray} : keyT (.mk 1 b n s m f q g) = [1, if b then 1 else 0] := by simp [keyT]
theorem key_num {b : Bool} {n : Int} {s : ByteArray} {m : Nat} {f : Nat → Tr} {q : Nat} {g : Nat → ByteArray} : keyT (.mk 2 b n s m f q g) = 2 :: be8 (turnN n) := by simp [keyT]
theorem key_str {b : Bool} {n : Int} {s : ByteArray} {m : Nat} {f : Nat → Tr} {q : Nat} {g : Nat → ByteArray} : keyT (.mk 3 b n s m f q g) = 3 :: (ktextL s ++ []) := by simp [keyT]
theorem key_byt {b : Bool} {n : Int} {s : ByteArray} {m : Nat} {f : Nat → Tr} {q : Nat} {g : Nat → ByteArray} : keyT (.mk 4 b n s m f q g) = 4 :: (ktextL s ++ []) := by simp [keyT]
theorem key_lst {b : Bool} {n : Int} {s : ByteArray} {m : Nat} {f : Nat → Tr} {q : Nat} {g : Nat → ByteArray} : keyT (.mk 5 b n s m f q g) = 5 :: rowT m (partF 5 f g) := by rw [keyT]; rfl
theorem key_stc {b : Bool} {n : Int} {s : ByteArray} {m : Nat} {f : Nat → Tr} {q : Nat} {g : Nat → ByteArray} : keyT (.mk 6 b n s m f q g) = 6 :: rowT m (partF 6 f g) := by rw [keyT]; rfl
theorem key_ff (a : Tr) : ∀ (b : Tr) (d d' : Int), soundT a d = 0 → soundT b d' = 0 → Comp (keyT a) (keyT b) → keyT a = keyT b := by
  induction a with
  | no =>
    intro b d d' ha hb h
    have hk := kind_eq ha hb h
    cases b with
    | no => rfl
    | mk k' b' n' s' m' f' q' g' => rw [key_no (show k' = 0 from hk.symm)]; rfl
  | mk k bo n s m f q g ih =>
    intro b d d' ha hb h
    have hk := kind_eq ha hb h
    cases b with
    | no => rw [key_no (show k = 0 from hk)]; rfl
    | mk k' b' n' s' m' f' q' g' =>
      have hk' : k = k' := hk
      subst hk'
      have hP := soundP ha
      have hQ := soundP hb
      have h0 := hP.k0
      have h6 := hP.k6
      obtain rfl | rfl | rfl | rfl | rfl | rfl | rfl : k = 0 ∨ k = 1 ∨ k = 2 ∨ k = 3 ∨ k = 4 ∨ k = 5 ∨ k = 6 := by omega
      · rw [key_no rfl, key_no rfl]
      · rw [key_bool, key_bool] at h ⊢
        exact comp_len h (by simp)
      · rw [key_num, key_num] at h ⊢
        exact comp_len h (by simp [be8_len])
      · rw [key_str, key_str] at h ⊢
        rw [ktext_ff (comp_cons.1 h).2]
      · rw [key_byt, key_byt] at h ⊢
        rw [ktext_ff (comp_cons.1 h).2]
      · rw [key_lst, key_lst] at h ⊢
        refine congrArg _ (row_ff (F := partF 5 f g) (G := partF 5 f' g') (fun i _ => ⟨_, rfl⟩) (fun i _ => ⟨_, rfl⟩) (fun i hi hi' hc => ?_) (comp_cons.1 h).2)
        unfold partF at hc ⊢
        rw [if_neg (by decide), if_neg (by decide), List.nil_append, List.nil_append, comp_cons] at hc
        rw [if_neg (by decide), if_neg (by decide), List.nil_append, List.nil_append, ih i (f' i) _ _ (hP.ch i hi) (hQ.ch i hi') hc.2]
      · rw [key_stc, key_stc] at h ⊢
        refine congrArg _ (row_ff (F := partF 6 f g) (G := partF 6 f' g') (fun i _ => ⟨_, rfl⟩) (fun i _ => ⟨_, rfl⟩) (fun i hi hi' hc => ?_) (comp_cons.1 h).2)
        unfold partF at hc ⊢
        rw [if_pos (by decide), if_pos (by decide), comp_cons] at hc
        have e := ktext_ff hc.2
        rw [e, comp_append] at hc
        rw [if_pos (by decide), if_pos (by decide), e, ih i (f' i) _ _ (hP.ch i hi) (hQ.ch i hi') hc.2]
theorem key_apart {a b : Tr} {d d' : Int} (ha : soundT a d = 0) (hb : soundT b d' = 0) (hne : keyT a ≠ keyT b) : ¬ Comp (keyT a) (keyT b) := fun h => hne (key_ff a b d d' ha hb h)
/- Rows that are alike up to a place. -/
theorem cat_congr {F G : Nat → List UInt8} : ∀ {i : Nat}, (∀ j, j < i → F j = G j) → cat i F = cat i G
  | 0, _ => rfl
  | i + 1, h => by
    show cat i F ++ F i = cat i G ++ G i
    rw [cat_congr (fun j hj => h j (by omega)), h i (by omega)]
theorem row_at {i m : Nat} (F : Nat → List UInt8) (h : i < m) : ∃ r, rowT m F = cat i F ++ (F i ++ r) := by
  obtain ⟨y, hy⟩ := cat_more F (show i + 1 ≤ m by omega)
  refine ⟨y ++ [0], ?_⟩
  unfold rowT
  rw [hy, show cat (i + 1) F = cat i F ++ F i from rfl]
  simp
theorem row_name {i m l : Nat} {F G : Nat → List UInt8} {s t : ByteArray} {x y : List UInt8} (hj : ∀ j, j < i → F j = G j) (hi : i < m) (hi' : i < l) (hF : F i = 1 :: (ktextL s ++ x)) (hG : G i = 1 :: (ktextL t ++ y)) (hne : s ≠ t) :
    lt8 (rowT m F) (rowT l G) = lt8 s.data.toList t.data.toList := by
  obtain ⟨r, hr⟩ := row_at F hi
  obtain ⟨r', hr'⟩ := row_at G hi'
  rw [hr, hr', cat_congr hj, lt8_append, hF, hG, List.cons_append, List.cons_append, lt8_cons, List.append_assoc, List.append_assoc, ktext_lt hne]
  simp
theorem row_part {i m l : Nat} {F G : Nat → List UInt8} {p x y : List UInt8} (hj : ∀ j, j < i → F j = G j) (hi : i < m) (hi' : i < l) (hF : F i = p ++ x) (hG : G i = p ++ y) (hne : ¬ Comp x y) :
    lt8 (rowT m F) (rowT l G) = lt8 x y := by
  obtain ⟨r, hr⟩ := row_at F hi
  obtain ⟨r', hr'⟩ := row_at G hi'
  rw [hr, hr', cat_congr hj, lt8_append, hF, hG, List.append_assoc, List.append_assoc, lt8_append, lt8_apart hne]
theorem row_end {m l : Nat} {F G : Nat → List UInt8} (hF : ∀ i, ∃ r, F i = 1 :: r) (hG : ∀ i, ∃ r, G i = 1 :: r) (hj : ∀ j, j < min m l → F j = G j) : lt8 (rowT m F) (rowT l G) = decide (m < l) := by
  rcases Nat.lt_trichotomy m l with h | h | h
  · rw [show min m l = m by omega] at hj
    obtain ⟨r', hr'⟩ := row_at G h
    obtain ⟨r, hr⟩ := hG m
    unfold rowT at hr' ⊢
    rw [hr', cat_congr hj, lt8_append, hr, List.cons_append, lt8_cons, decide_eq_true h]
    rfl
  · subst h
    rw [Nat.min_self] at hj
    unfold rowT
    rw [cat_congr hj, lt8_irrefl]
    simp
  · rw [show min m l = l by omega] at hj
    obtain ⟨r', hr'⟩ := row_at F h
    obtain ⟨r, hr⟩ := hF l
    unfold rowT at hr' ⊢
    rw [hr', ← cat_congr hj, lt8_append, hr, List.cons_append, lt8_cons, decide_eq_false (show ¬ m < l by omega)]
    rfl
end Go.Proofs.YtfcenidepkjdcaaDoor.V
namespace Go.Proofs.YtfcenidepkjdcaaDoor.V
open Go.RowKit
def hasB (lo hi key : ByteArray) : Bool := !Op.bytesLess key.toList lo.toList && (hi.toList.isEmpty || Op.bytesLess key.toList hi.toList)
theorem hasB_no {lo hi key : ByteArray} (h : Op.bytesLess key.toList lo.toList = true) : hasB lo hi key = false := by unfold hasB; rw [h]; rfl
theorem hasB_open {lo hi key : ByteArray} (h : Op.bytesLess key.toList lo.toList = false) (h2 : hi.toList.isEmpty = true) : hasB lo hi key = true := by unfold hasB; rw [h, h2]; rfl
theorem hasB_end {lo hi key : ByteArray} (h : Op.bytesLess key.toList lo.toList = false) (h2 : hi.toList.isEmpty = false) : hasB lo hi key = Op.bytesLess key.toList hi.toList := by unfold hasB; rw [h, h2]; rfl
set_option maxRecDepth 20000 in
set_option maxHeartbeats 2000000 in
theorem has_any (lo hi key : ByteArray) (w : World) : Calls Tryd.prog 44 #[.agg #[.string lo, .string hi], .string key] w fun e w' => e = .returned (.bool (hasB lo hi key)) ∧ Below w.heap.size w w' := by
  obtain ⟨X, hX⟩ : ∃ X, hasB lo hi key = X := ⟨_, rfl⟩
  rw [hX]
  have HX : Hid (hasB lo hi key = X) := hX
  clear hX
  have hb : Below w.heap.size w (w.alloc (.cells #[.string lo, .string hi] 23)) := (Below.refl _ w).alloc (Nat.le_refl _) _
  go_enter Tryd.func44, Tryd.ntmps44
  go_wp2
  · rename_i h1 h2
    go_ret
    rw [← HX.out, hasB_open h1 h2]
    exact ⟨rfl, hb⟩
  · rename_i h1 h2
    go_ret
    rw [← HX.out, hasB_end h1 h2]
    exact ⟨rfl, hb⟩
  · rename_i h1
    go_ret
    rw [← HX.out, hasB_no h1]
    exact ⟨rfl, hb⟩
def emptyB (lo hi : ByteArray) : Bool := !hasB lo hi lo
theorem min_str (ts : Array TypeId) (t : TypeId) (a b : ByteArray) (w : World) : (Builtin.min_ ts t #[.string a, .string b]).run Tryd.prog w = .ok (.string (if (Op.bytesLess a.toList b.toList || a.toList == b.toList) = true then a else b)) w := by
  simp [Builtin.min_, Builtin.min2, Op.stringOp, asBool]
theorem max_str (ts : Array TypeId) (t : TypeId) (a b : ByteArray) (w : World) : (Builtin.max_ ts t #[.string a, .string b]).run Tryd.prog w = .ok (.string (if (!Op.bytesLess a.toList b.toList) = true then a else b)) w := by
  simp [Builtin.max_, Builtin.max2, Op.stringOp, asBool]
def lowerB (a b : ByteArray) : ByteArray := if (a.toList.isEmpty || b.toList.isEmpty) = true then a ++ b else if (Op.bytesLess a.toList b.toList || a.toList == b.toList) = true then a else b
theorem size_of_empty {a : ByteArray} (h : a.toList.isEmpty = true) : a.size = 0 := by
  rw [Lib.size_eq, ← Lib.toList_data]
  simpa using h
def maxS (a b : ByteArray) : ByteArray := if (!Op.bytesLess a.toList b.toList) = true then a else b
end Go.Proofs.YtfcenidepkjdcaaDoor.V
namespace Go.Proofs.YtfcenidepkjdcaaDoor.V
open Go.RowKit
def nextB (s : ByteArray) : ByteArray := ⟨(nextL s.data.toList).toArray⟩
theorem take_up (s : ByteArray) (k : Nat) (h : k < s.size) : s.data.toList.take (k + 1) = s.data.toList.take k ++ [s[k]] := by
  rw [List.take_succ_eq_append_getElem (by simpa using h)]; rfl
theorem ext_cat (s : ByteArray) (j : Nat) (c : UInt8) : s.extract 0 j ++ ⟨#[c]⟩ = ⟨(s.data.toList.take j ++ [c]).toArray⟩ := by
  refine ByteArray.ext ?_
  rw [ByteArray.data_append, ByteArray.data_extract]
  apply Array.ext'
  simp
set_option maxRecDepth 20000 in
set_option maxHeartbeats 1000000 in
theorem next_any (s : ByteArray) (hs : s.size ≤ maxLen) (w : World) :
    Calls Tryd.prog 40 #[.string s] w fun e w' => e = .returned (.string (nextB s)) ∧ Below w.heap.size w w' := by
  unfold maxLen at hs
  obtain ⟨X, hX⟩ : ∃ X, nextB s = X := ⟨_, rfl⟩
  rw [hX]
  have HX : Hid (nextB s = X) := hX
  clear hX
  have hl : IntKind.i64.wrap ((s.size : Int) - 1) = (s.size : Int) - 1 := by rw [IntKind.wrap_i64]; omega
  go_enter Tryd.func40, Tryd.ntmps40
  go_wp2
  go_loopw [3] (fun c3 wr => ∃ (k : Nat), k ≤ s.size ∧ c3 = .int .i64 ((k : Int) - 1) ∧ nextF (s.data.toList.take k) = nextF s.data.toList ∧ wr = w) (fun c3 _ => (intOf c3 + 1).toNat)
  case atStart =>
    exact ⟨s.size, Nat.le_refl _, rfl, by rw [List.take_of_length_le (by simp)], rfl⟩
  case round =>
    obtain ⟨k, hk, rfl, hn, rfl⟩ := hrel
    have HN : Hid (nextF (s.data.toList.take k) = nextF s.data.toList) := hn
    clear hn
    rcases Nat.eq_zero_or_pos k with rfl | hk0
    · have hx : nextB s = ⟨#[]⟩ := by unfold nextB nextL; rw [← HN.out]; rfl
      obtain rfl := hx.symm.trans HX.out
      go_wp2
      all_goals
        go_ret
        exact ⟨rfl, Below.refl _ _⟩
    · obtain ⟨j, rfl⟩ : ∃ j, k = j + 1 := ⟨k - 1, by omega⟩
      have hj : ((j + 1 : Nat) : Int) - 1 = (j : Int) := by omega
      rw [hj]
      have hjs : j < s.size := by omega
      have hjs' : (j : Int) < (s.size : Int) := by omega
      rw [take_up s j hjs] at HN
      by_cases hff : s[j].toNat = 255
      · have hff' : (s[j].toNat : Int) = 255 := by omega
        go_wp2
        go_roundw
        case rel => exact ⟨j, by omega, by go_num, by
          have e : s[j] = 255 := u8_eq.2 hff
          have := HN.out
          rw [e, nextF_ff] at this
          exact this, by trivial⟩
        case measure => simp [intOf]
      · have hff' : ¬ (s[j].toNat : Int) = 255 := by omega
        have hne : s[j] ≠ 255 := fun e => hff (u8_eq.1 e)
        have hx : nextB s = ⟨(s.data.toList.take j ++ [s[j] + 1]).toArray⟩ := by
          unfold nextB nextL
          rw [← HN.out, nextF_up _ _ hne]
          rfl
        have HY := hx.symm.trans HX.out
        clear hx
        obtain ⟨c, hc⟩ : ∃ c, s[j] + 1 = c := ⟨_, rfl⟩
        obtain ⟨v, hv⟩ : ∃ v : Int, IntKind.u8.wrap ((s[j].toNat : Int) + 1) = v := ⟨_, rfl⟩
        have hvc : v = (c.toNat : Int) := by
          rw [← hv, ← hc, IntKind.wrap_u8', UInt8.toNat_add]
          have h3 : (1 : UInt8).toNat = 1 := rfl
          rw [h3]
          omega
        rw [hc] at HY
        have HY' : Hid (X = ⟨(s.data.toList.take j ++ [c]).toArray⟩) := HY.symm
        have HV : Hid (v = (c.toNat : Int)) := hvc
        have hcv : (convert 88 9 (.slice (some ⟨wr.heap.size, 0, none⟩) 1 1)).run Tryd.prog (wr.alloc (.cells #[.int .u8 v] 5)).drew = .ok (.string ⟨#[c]⟩) (wr.alloc (.cells #[.int .u8 v] 5)).drew := conv1 wr.drew c 5 v hvc
        have hz : (s.extract 0 j).size + (⟨#[c]⟩ : ByteArray).size ≤ 9223372036854775807 := by
          have h1 : (⟨#[c]⟩ : ByteArray).size = 1 := rfl
          rw [h1, ByteArray.size_extract]
          omega
        clear HY hvc hc HX HN hne
        go_wp2
        go_region
        all_goals
          go_wp2
          go_ret
          refine ⟨?_, ((Below.refl _ wr).alloc (Nat.le_refl _) _).drew⟩
          rw [HY'.out, ext_cat]
          rfl
end Go.Proofs.YtfcenidepkjdcaaDoor.V
