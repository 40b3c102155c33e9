/- A value's bytes, or why it has none (Encode, Check). A sound value's key has at most nine times as many bytes as the value; a cut value's texts are short; Pair. The order of texts, byte by byte, and the least text above all that begin with one: plain facts. -/
import Derived.Test.YtfcenidepkjdcaaDoorXak
import Derived.Test.YtfcenidepkjdcaaDoorVKput
import Derived.Test.YtfcenidepkjdcaaDoorVKkeyd
import GoSem.Op.String
namespace Go.Proofs.YtfcenidepkjdcaaDoor.V
open Go.RowKit
def checkT (t : Tr) : Int := if soundT t 1 = 0 then (if 1024 < (bytesT t).length then 3 else 0) else soundT t 1
def encT (t : Tr) : ByteArray := if checkT t = 0 then ⟨(bytesT t).toArray⟩ else ⟨#[]⟩
set_option maxRecDepth 100000 in
theorem bytesT_ne (t : Tr) : bytesT t ≠ [] := by cases t <;> rw [bytesT] <;> simp
set_option maxRecDepth 100000 in
set_option maxHeartbeats 4000000 in
theorem encode_any {t : Tr} {B : Nat} {w : World} {x : Ad} (hL : Lies B w t x) (hB : B ≤ w.heap.size) (hsm : small t) :
    Calls Tryd.prog 41 #[t.val x] w fun e w' => e = .returned (.tuple #[.string (encT t), .int .i64 (checkT t)]) ∧ Below w.heap.size w w' := by
  obtain ⟨C, hC⟩ : ∃ C, checkT t = C := ⟨_, rfl⟩
  obtain ⟨X, hX⟩ : ∃ X, encT t = X := ⟨_, rfl⟩
  rw [hC, hX]
  have HC : Hid (checkT t = C) := hC
  have HX : Hid (encT t = X) := hX
  clear hC hX
  obtain ⟨E, hE⟩ : ∃ E, soundT t 1 = E := ⟨_, rfl⟩
  have hso := fun (W : World) (hb : Below B w W) (hs : B ≤ W.heap.size) => sound_any t B W x 1 (by decide) (by decide) (hL.later hb) hs
  rw [hE] at hso
  have HE : Hid (soundT t 1 = E) := hE
  clear hE
  obtain ⟨bs, hbs⟩ : ∃ bs, bytesT t = bs := ⟨_, rfl⟩
  have HB : Hid (bytesT t = bs) := hbs
  have hne := bytesT_ne t
  rw [hbs] at hne
  clear hbs
  have hpt := put_all t 1
  rw [PutC, HB.out] at hpt
  have hV : t.val x = .agg #[.int .i64 t.k, .bool t.b, .int .i64 t.n, .string t.s, .slice x.pa t.m x.pc, .slice x.na t.q x.nc] := rfl
  rw [hV] at hso ⊢
  have hbel : Below w.heap.size w (w.alloc (.cells #[.int .i64 t.k, .bool t.b, .int .i64 t.n, .string t.s, .slice x.pa t.m x.pc, .slice x.na t.q x.nc] 29)) := (Below.refl _ w).alloc (Nat.le_refl _) _
  have hrow := (heap_alloc_new w (.cells #[.int .i64 t.k, .bool t.b, .int .i64 t.n, .string t.s, .slice x.pa t.m x.pc, .slice x.na t.q x.nc] 29))
  by_cases h0 : E = 0
  · subst h0
    go_enter Tryd.func41, Tryd.ntmps41
    go_wp2_with fail
    refine (hso _ (hbel.mono hB) (by simp; omega)).mono ?_
    rintro e w1 ⟨rfl, hb1⟩
    replace hrow := (hb1.block _ (by simp)).trans hrow
    replace hbel := hbel.trans (hb1.mono (by simp))
    clear hb1
    have hlt := lt_of_row hrow
    have hbl := bld_new w1
    have hb2 : Below w1.heap.size w1 (w1.alloc (.cells #[.pointer none, .slice none 0 0] 90)) := (Below.refl _ w1).alloc (Nat.le_refl _) _
    have hrow2 := (hb2.block _ hlt).trans hrow
    have c0 := cell_of_row _ _ 0 _ _ _ hrow2
    have c1 := cell_of_row _ _ 1 _ _ _ hrow2
    have c2 := cell_of_row _ _ 2 _ _ _ hrow2
    have c3 := cell_of_row _ _ 3 _ _ _ hrow2
    have c4 := cell_of_row _ _ 4 _ _ _ hrow2
    have c5 := cell_of_row _ _ 5 _ _ _ hrow2
    have hLx := hL.later ((hbel.trans (hb2.mono (by omega))).mono hB)
    have hBb : B ≤ w1.heap.size := by omega
    go_wp2_with fail
    refine (hpt HE.out hsm B _ x _ [] hLx hBb hbl (by simp)).mono ?_
    rintro e w3 ⟨rfl, ⟨l3, hbl3, haf, hl3⟩, hbb3, ht3⟩
    have hfin : Below w.heap.size w w3 := (hbel.trans (hb2.mono (by omega))).trans (hbb3.mono (by omega))
    clear c0 c1 c2 c3 c4 c5
    go_wp2_with fail
    refine (b_len _ l3 _ hbl3).mono ?_
    rintro e w3 ⟨rfl, rfl⟩
    by_cases hbig : 1024 < l3.length
    · have hbig' : (1024 : Int) < (l3.length : Int) := by omega
      have hx : 1024 < bs.length := by
        rcases Nat.lt_or_ge 1024 bs.length with k | k
        · exact k
        · have := haf.1 (by simpa using k); rw [List.nil_append] at this; rw [this] at hbig; omega
      have hc : checkT t = 3 := by unfold checkT; rw [if_pos HE.out, HB.out, if_pos hx]
      have he : encT t = ⟨#[]⟩ := by unfold encT; rw [hc]; rfl
      obtain rfl := hc.symm.trans HC.out
      obtain rfl := he.symm.trans HX.out
      go_wp2
      go_ret2
      exact ⟨rfl, hfin⟩
    · have hbig' : (l3.length : Int) ≤ 1024 := by omega
      have hx : l3 = bs := by have := haf.exact (by omega); simpa using this
      subst hx
      have hc : checkT t = 0 := by unfold checkT; rw [if_pos HE.out, HB.out, if_neg hbig]
      have he : encT t = ⟨l3.toArray⟩ := by unfold encT; rw [hc, if_pos rfl, HB.out]
      obtain rfl := hc.symm.trans HC.out
      obtain rfl := he.symm.trans HX.out
      go_wp2_with fail
      refine (b_string _ l3 _ hbl3 hne).mono ?_
      rintro e w4 ⟨rfl, hb4⟩
      go_wp2
      go_ret2
      exact ⟨rfl, hfin.trans (hb4.mono (by omega))⟩
  · have hc : checkT t = E := by unfold checkT; rw [HE.out, if_neg h0]
    have he : encT t = ⟨#[]⟩ := by unfold encT; rw [hc, if_neg h0]
    obtain rfl := hc.symm.trans HC.out
    obtain rfl := he.symm.trans HX.out
    clear hpt
    have h0' : (E != 0) = true := by simpa using h0
    go_enter Tryd.func41, Tryd.ntmps41
    go_wp2_with fail
    refine (hso _ (hbel.mono hB) (by simp; omega)).mono ?_
    rintro e w1 ⟨rfl, hb1⟩
    go_wp2
    go_ret2
    exact ⟨rfl, hbel.trans (hb1.mono (by simp))⟩
set_option maxRecDepth 100000 in
set_option maxHeartbeats 1000000 in
theorem check_any {t : Tr} {B : Nat} {w : World} {x : Ad} (hL : Lies B w t x) (hB : B ≤ w.heap.size) (hsm : small t) :
    Calls Tryd.prog 22 #[t.val x] w fun e w' => e = .returned (.int .i64 (checkT t)) ∧ Below w.heap.size w w' := by
  have hen := fun (W : World) (hb : Below B w W) (hs : B ≤ W.heap.size) => encode_any (hL.later hb) hs hsm
  have hV : t.val x = .agg #[.int .i64 t.k, .bool t.b, .int .i64 t.n, .string t.s, .slice x.pa t.m x.pc, .slice x.na t.q x.nc] := rfl
  rw [hV] at hen ⊢
  have hbel : Below w.heap.size w (w.alloc (.cells #[.int .i64 t.k, .bool t.b, .int .i64 t.n, .string t.s, .slice x.pa t.m x.pc, .slice x.na t.q x.nc] 29)) := (Below.refl _ w).alloc (Nat.le_refl _) _
  go_enter Tryd.func22, Tryd.ntmps22
  go_wp2_with fail
  refine (hen _ (hbel.mono hB) (by simp; omega)).mono ?_
  rintro e w1 ⟨rfl, hb1⟩
  go_wp2
  go_ret
  exact ⟨rfl, hbel.trans (hb1.mono (by simp))⟩
end Go.Proofs.YtfcenidepkjdcaaDoor.V
namespace Go.Proofs.YtfcenidepkjdcaaDoor.V
open Go.RowKit
set_option maxRecDepth 100000 in
theorem put_pos (n : Nat) : 1 ≤ (put n).length := by
  rcases Nat.lt_or_ge n 128 with h | h
  · rw [put_lt h]; exact Nat.le_refl _
  · rw [put_ge h]; simp
set_option maxRecDepth 100000 in
theorem cat_leK {F G : Nat → List UInt8} : ∀ {m : Nat}, (∀ i, i < m → (F i).length ≤ 9 * (G i).length) → (cat m F).length ≤ 9 * (cat m G).length
  | 0, _ => Nat.zero_le _
  | m + 1, h => by
    have h1 := cat_leK (m := m) (fun i hi => h i (by omega))
    have h2 := h m (by omega)
    show (cat m F ++ F m).length ≤ 9 * (cat m G ++ G m).length
    rw [List.length_append, List.length_append]
    omega
set_option maxRecDepth 100000 in
theorem key_len (t : Tr) : ∀ d, soundT t d = 0 → (keyT t).length + 8 ≤ 9 * (bytesT t).length := by
  induction t with
  | no => intro _ _; decide
  | mk k b n s m f q g ih =>
    intro d hS
    have hP := soundP hS
    have h0 := hP.k0
    have h6 := hP.k6
    obtain rfl | rfl | rfl | rfl | rfl | rfl | rfl : k = 0 ∨ k = 1 ∨ k = 2 ∨ k = 3 ∨ k = 4 ∨ k = 5 ∨ k = 6 := by omega
    · simp [keyT, bytesT]
    · simp [keyT, bytesT]
    · have := put_pos (zig n)
      simp [keyT, bytesT, be8_len]
      omega
    · have h1 := put_pos s.size
      have h2 := ktextL_len s
      simp [keyT, bytesT, textL]
      omega
    · have h1 := put_pos s.size
      have h2 := ktextL_len s
      simp [keyT, bytesT, textL]
      omega
    · have h1 := put_pos m
      have hc := cat_leK (m := m) (F := fun i => 1 :: keyT (f i)) (G := fun i => bytesT (f i)) (fun i hi => by
        have := ih i (d + 1) (hP.ch i hi)
        simp only [List.length_cons]; omega)
      simp [keyT, bytesT]
      omega
    · have h1 := put_pos m
      have hc := cat_leK (m := m) (F := fun i => 1 :: (ktextL (g i) ++ keyT (f i))) (G := fun i => textL (g i) ++ bytesT (f i)) (fun i hi => by
        have := ih i (d + 1) (hP.ch i hi)
        have h3 := put_pos (g i).size
        have h4 := ktextL_len (g i)
        simp only [List.length_cons, List.length_append, textL]
        have h5 := Lib.size_eq (g i)
        omega)
      simp [keyT, bytesT]
      omega
set_option maxRecDepth 100000 in
theorem small_cutK (t : Tr) : ∀ d w, small (cutT t d w) := by
  induction t with
  | no => exact fun _ _ => trivial
  | mk k b n s m f q g ih =>
    intro d w
    rw [cutT]
    refine ⟨?_, fun i _ => ih i (d - 1) 4⟩
    split
    · simp; omega
    · omega
set_option maxRecDepth 100000 in
theorem check_zero {t : Tr} (h : checkT t = 0) : soundT t 1 = 0 ∧ (bytesT t).length ≤ 1024 := by
  unfold checkT at h
  by_cases hs : soundT t 1 = 0
  · rw [if_pos hs] at h
    by_cases hb : 1024 < (bytesT t).length
    · rw [if_pos hb] at h; cases h
    · exact ⟨hs, by omega⟩
  · rw [if_neg hs] at h
    exact absurd h hs
set_option maxRecDepth 100000 in
theorem key_short {t : Tr} (h : checkT t = 0) : (keyT t).length ≤ 9216 := by
  obtain ⟨h1, h2⟩ := check_zero h
  have := key_len t 1 h1
  omega
set_option maxRecDepth 100000 in
theorem of_ok {t : Tr} {B : Nat} {w : World} {x : Ad} (h : checkT t = 0) (hsm : small t) (hg : Gm w) (hL : Lies B w t x) (hB : B ≤ w.heap.size) :
    Calls Tryd.prog 39 #[t.val x] w fun e w' => e = .returned (.string ⟨(keyT t).toArray⟩) ∧ Below w.heap.size w w' :=
  ofg_any (kputg_all t 1 (check_zero h).1 hsm) hg (by obtain ⟨m, hm⟩ := hg; exact Nat.lt_of_le_of_lt (Nat.zero_le _) (block_lt hm)) hL hB (by have := key_short h; omega)
set_option maxRecDepth 100000 in
theorem key_ok {t : Tr} {B : Nat} {w : World} {x : Ad} (h : checkT t = 0) (hsm : small t) (hL : Lies B w t x) (hB : B ≤ w.heap.size) :
    Calls Tryd.prog 46 #[t.val x] w fun e w' => e = .returned (.string ⟨(keyT t).toArray⟩) ∧ Below w.heap.size w w' :=
  dkey_all t 1 (check_zero h).1 hsm B w x hL hB (by have := key_short h; omega)
set_option maxRecDepth 100000 in
theorem Gm.pos {w : World} (h : Gm w) : 0 < w.heap.size := by obtain ⟨m, hm⟩ := h; exact Nat.lt_of_le_of_lt (Nat.zero_le _) (block_lt hm)
end Go.Proofs.YtfcenidepkjdcaaDoor.V
namespace Go.Proofs.YtfcenidepkjdcaaDoor.V
def lt8 (x y : List UInt8) : Bool := Op.bytesLess x y
theorem lt8_nil_r (x : List UInt8) : lt8 x [] = false := by cases x <;> simp [lt8, Op.bytesLess]
theorem lt8_nil_l (c : UInt8) (y : List UInt8) : lt8 [] (c :: y) = true := by simp [lt8, Op.bytesLess]
theorem lt8_cons (a b : UInt8) (x y : List UInt8) : lt8 (a :: x) (b :: y) = (decide (a < b) || (a == b && lt8 x y)) := by simp [lt8, Op.bytesLess]
theorem u8_lt {a b : UInt8} : a < b ↔ a.toNat < b.toNat := UInt8.lt_iff_toNat_lt
theorem u8_eq {a b : UInt8} : a = b ↔ a.toNat = b.toNat := UInt8.toNat_inj.symm
theorem lt8_irrefl (x : List UInt8) : lt8 x x = false := by
  induction x with
  | nil => rfl
  | cons a x ih => rw [lt8_cons, ih]; simp
theorem lt8_trans {x y z : List UInt8} (h : lt8 x y = true) (k : lt8 y z = true) : lt8 x z = true := by
  induction x generalizing y z with
  | nil =>
    cases z with
    | nil => rw [lt8_nil_r] at k; cases k
    | cons c z => exact lt8_nil_l c z
  | cons a x ih =>
    cases y with
    | nil => rw [lt8_nil_r] at h; cases h
    | cons b y =>
      cases z with
      | nil => rw [lt8_nil_r] at k; cases k
      | cons c z =>
        rw [lt8_cons] at h k ⊢
        simp only [Bool.or_eq_true, decide_eq_true_eq, Bool.and_eq_true, beq_iff_eq] at h k ⊢
        rw [u8_lt, u8_eq] at h k ⊢
        rcases h with h | ⟨h1, h2⟩ <;> rcases k with k | ⟨k1, k2⟩
        · left; omega
        · left; omega
        · left; omega
        · right; exact ⟨by omega, ih h2 k2⟩
theorem lt8_total (x y : List UInt8) : lt8 x y = true ∨ x = y ∨ lt8 y x = true := by
  induction x generalizing y with
  | nil =>
    cases y with
    | nil => exact Or.inr (Or.inl rfl)
    | cons c y => exact Or.inl (lt8_nil_l c y)
  | cons a x ih =>
    cases y with
    | nil => exact Or.inr (Or.inr (lt8_nil_l a x))
    | cons b y =>
      rw [lt8_cons, lt8_cons]
      rcases Nat.lt_trichotomy a.toNat b.toNat with h | h | h
      · left; simp [u8_lt.2 h]
      · have e : a = b := u8_eq.2 h
        subst e
        rcases ih y with h | h | h
        · left; simp [h]
        · right; left; rw [h]
        · right; right; simp [h]
      · right; right; simp [u8_lt.2 h]
theorem lt8_asymm {x y : List UInt8} (h : lt8 x y = true) : lt8 y x = false := by
  cases k : lt8 y x with
  | false => rfl
  | true => have := lt8_trans h k; rw [lt8_irrefl] at this; cases this
theorem lt8_ne {x y : List UInt8} (h : lt8 x y = true) : x ≠ y := fun e => by rw [e, lt8_irrefl] at h; cases h
theorem lt8_append (p x y : List UInt8) : lt8 (p ++ x) (p ++ y) = lt8 x y := by
  induction p with
  | nil => rfl
  | cons a p ih => rw [List.cons_append, List.cons_append, lt8_cons, ih]; simp
theorem lt8_more (p : List UInt8) (c : UInt8) (y : List UInt8) : lt8 p (p ++ c :: y) = true := by
  have := lt8_append p [] (c :: y)
  rw [List.append_nil, lt8_nil_l] at this
  exact this
def nextF : List UInt8 → Option (List UInt8)
  | [] => none
  | c :: r => match nextF r with
    | some x => some (c :: x)
    | none => if c = 255 then none else some [c + 1]
def nextL (s : List UInt8) : List UInt8 := (nextF s).getD []
theorem nextF_ff (l : List UInt8) : nextF (l ++ [255]) = nextF l := by
  induction l with
  | nil => rfl
  | cons c r ih => rw [List.cons_append, nextF, nextF, ih]
theorem nextF_up (l : List UInt8) (c : UInt8) (h : c ≠ 255) : nextF (l ++ [c]) = some (l ++ [c + 1]) := by
  induction l with
  | nil => simp [nextF, h]
  | cons d r ih => rw [List.cons_append, nextF, ih]; rfl
theorem nextF_ne {s n : List UInt8} (h : nextF s = some n) : n ≠ [] := by
  intro e
  subst e
  cases s with
  | nil => cases h
  | cons c r =>
    rw [nextF] at h
    split at h
    · cases h
    · split at h <;> cases h
theorem up_lt {c : UInt8} (h : c ≠ 255) : c < c + 1 := by
  rw [u8_lt, UInt8.toNat_add]
  have h1 : c.toNat ≠ 255 := fun e => h (u8_eq.2 e)
  have h2 := c.toNat_lt
  have h3 : (1 : UInt8).toNat = 1 := rfl
  rw [h3]
  omega
theorem next_above {s n : List UInt8} (t : List UInt8) (h : nextF s = some n) : lt8 (s ++ t) n = true := by
  induction s generalizing n with
  | nil => cases h
  | cons c r ih =>
    rw [nextF] at h
    split at h
    · rename_i x hx
      injection h with h
      subst h
      rw [List.cons_append, lt8_cons, ih hx]
      simp
    · split at h
      · cases h
      · rename_i hc
        injection h with h
        subst h
        rw [List.cons_append, lt8_cons]
        simp [up_lt hc]
theorem next_least {s t : List UInt8} (h : lt8 s t = true) (hp : ¬ s <+: t) : ∃ n, nextF s = some n ∧ lt8 t n = false := by
  induction s generalizing t with
  | nil => exact absurd (List.nil_prefix) hp
  | cons c r ih =>
    cases t with
    | nil => rw [lt8_nil_r] at h; cases h
    | cons d t =>
      rw [lt8_cons] at h
      simp only [Bool.or_eq_true, decide_eq_true_eq, Bool.and_eq_true, beq_iff_eq] at h
      rcases h with h | ⟨rfl, h⟩
      · cases hx : nextF r with
        | some x =>
          refine ⟨c :: x, by rw [nextF, hx], ?_⟩
          rw [lt8_cons]
          have h1 : ¬ d < c := by rw [u8_lt] at h ⊢; omega
          have h2 : ¬ d = c := by rw [u8_lt] at h; rw [u8_eq]; omega
          simp [h1, h2]
        | none =>
          have hc : c ≠ 255 := fun e => by subst e; rw [u8_lt] at h; have := d.toNat_lt; have h3 : (255 : UInt8).toNat = 255 := rfl; omega
          refine ⟨[c + 1], by rw [nextF, hx]; simp [hc], ?_⟩
          rw [lt8_cons, lt8_nil_r]
          have h1 : ¬ d < c + 1 := by
            rw [u8_lt] at h ⊢
            rw [UInt8.toNat_add]
            have h3 : (1 : UInt8).toNat = 1 := rfl
            have h2 := d.toNat_lt
            rw [h3]
            omega
          simp [h1]
      · have hp' : ¬ r <+: t := fun k => hp ((List.prefix_cons_inj c).2 k)
        obtain ⟨x, hx, hl⟩ := ih h hp'
        refine ⟨c :: x, by rw [nextF, hx], ?_⟩
        rw [lt8_cons, hl]
        simp
end Go.Proofs.YtfcenidepkjdcaaDoor.V
