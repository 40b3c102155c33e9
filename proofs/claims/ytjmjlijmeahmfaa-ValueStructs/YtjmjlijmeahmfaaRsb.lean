/- The document's Struct: each part in its place, or in its elder's (docP). -/
import Derived.Test.YtjmjlijmeahmfaaLsl
import Derived.Test.YtjmjlijmeahmfaaOrx
import Derived.Test.YtjmjlijmeahmfaaRbf
import Derived.Test.YtjmjlijmeahmfaaCln
import Derived.Lib.AppendZeros
import Derived.Deep.DeepCutAuto
import Derived.Deep.CutRange
namespace Go.Proofs.Ytjmjlijmeahmfaa
open Go.RowKit Go.Lib
attribute [local go_sem] Oper.semAt_some
def pickO (S : List (Nat × Nat × List Value)) (i : Nat) : Option (Nat × List Value) := S.lookup i
def RO (E sz B : Nat) (S : List (Nat × Nat × List Value)) (vals : List Value) (i : Nat) (v : Value) (W : World) : Prop := match pickO S i with | some (n, L) => W.ownsRow B E sz v n L | none => v = vals.getD i undef
def bxO (S : List (Nat × Nat × List Value)) (i : Nat) : Bool := (pickO S i).isSome
theorem RO.r0 {E sz B : Nat} {S : List (Nat × Nat × List Value)} {vals : List Value} : ∀ i u W W' (row : Option Nat), bxO S i = false → RO E sz B S vals i u W → World.grownBy W W' row → RO E sz B S vals i u W' := by
  intro i u W W' row hb h _
  unfold bxO at hb
  unfold RO at h ⊢
  cases e : pickO S i with
  | none => rw [e] at h; exact h
  | some x => rw [e] at hb; cases hb
theorem RO.r1 {E sz B : Nat} {S : List (Nat × Nat × List Value)} {vals : List Value} : ∀ i u W W' (row : Option Nat), bxO S i = true → RO E sz B S vals i u W → World.grownBy W W' row → (∀ g, row = some g → u.ownBlock ≠ some g) → RO E sz B S vals i u W' := by
  intro i u W W' row hb h hg hne
  unfold bxO at hb
  unfold RO at h ⊢
  cases e : pickO S i with
  | none => rw [e] at hb; cases hb
  | some x =>
    rw [e] at h
    refine h.kept hg ?_
    cases hu : u.ownBlock with
    | none => exact Or.inl rfl
    | some g => exact Or.inr (fun e2 => hne g e2.symm hu)
theorem own_blk {W : World} {B E sz n : Nat} {L : List Value} {v : Value} (h : W.ownsRow B E sz v n L) : ∀ g, v.ownBlock = some g → g < W.heap.size := fun g hg => (h.lt g hg).2
def docT (g : Nat → ByteArray) (f : Nat → Tr) (D : List Nat) : Tr := .mk 6 false 0 ⟨#[]⟩ D.length (fun j => f (D.getD j 0)) D.length (fun j => g (D.getD j 0))
def cN (g : Nat → ByteArray) (a : Nat) : List Value := [.string (g a)]
def cP (f : Nat → Tr) (A : Nat → Ad) (a : Nat) : List Value := (f a).cs (A a)
theorem cN_len (g : Nat → ByteArray) : ∀ a, (cN g a).length = 1 := fun _ => rfl
theorem cP_len (f : Nat → Tr) (A : Nat → Ad) : ∀ a, (cP f A a).length = 6 := fun _ => rfl
theorem cN_one (g : Nat → ByteArray) (D : List Nat) : ∀ u ∈ D.flatMap (cN g), u.oneCell' = true := fun u hu => by
  obtain ⟨a, _, h⟩ := List.mem_flatMap.1 hu
  have : u = .string (g a) := by simpa [cN] using h
  rw [this]; rfl
theorem cs_one' (t : Tr) (x : Ad) : ∀ u ∈ t.cs x, u.oneCell' = true := fun u hu => by
  simp only [Tr.cs, List.mem_cons, List.not_mem_nil, or_false] at hu
  rcases hu with rfl | rfl | rfl | rfl | rfl | rfl <;> rfl
theorem cP_one (f : Nat → Tr) (A : Nat → Ad) (D : List Nat) : ∀ u ∈ D.flatMap (cP f A), u.oneCell' = true := fun u hu => by
  obtain ⟨a, _, h⟩ := List.mem_flatMap.1 hu
  exact cs_one' _ _ u h
theorem names_at {S : Nat → Prop} {w : World} {g : Nat → ByteArray} {D : List Nat} {p : Option Addr} {n c : Nat} (h : SlT S w 1 p n c (D.flatMap (cN g))) (hn : D.length = n) (h0 : 0 < n) : ∃ b o, p = some ⟨b, o, none⟩ ∧ S b ∧ ∀ j, j < n → w.cell? ⟨b, o + j, none⟩ = some (.string (g (D.getD j 0))) := by
  obtain ⟨b, o, h1, h2, h3⟩ := h.lies h0
  refine ⟨b, o, h1, h2, fun j hj => h3 j _ ?_⟩
  have := fm_at (cN_len g) D j 0 (by omega) (by omega)
  rw [Nat.mul_one, Nat.add_zero] at this
  rw [this]; rfl
theorem parts_at {S : Nat → Prop} {w : World} {f : Nat → Tr} {A : Nat → Ad} {D : List Nat} {p : Option Addr} {n c : Nat} (h : SlT S w 6 p n c (D.flatMap (cP f A))) (hn : D.length = n) (h0 : 0 < n) : ∃ b o, p = some ⟨b, o, none⟩ ∧ S b ∧ ∀ j, j < n → At6 w b (o + j * 6) (f (D.getD j 0)) (A (D.getD j 0)) := by
  obtain ⟨b, o, h1, h2, h3⟩ := h.lies h0
  refine ⟨b, o, h1, h2, fun j hj => ?_⟩
  have key : ∀ c v, c < 6 → (cP f A (D.getD j 0))[c]? = some v → w.cell? ⟨b, o + j * 6 + c, none⟩ = some v := fun c v hc hv => by
    have h4 := fm_at (cP_len f A) D j c (by omega) hc
    rw [hv] at h4
    have := h3 _ _ h4
    rw [show o + (j * 6 + c) = o + j * 6 + c by omega] at this
    exact this
  exact ⟨key 0 _ (by omega) rfl, key 1 _ (by omega) rfl, key 2 _ (by omega) rfl, key 3 _ (by omega) rfl, key 4 _ (by omega) rfl, key 5 _ (by omega) rfl⟩
theorem less_iff (a b : ByteArray) : Op.bytesLess a.toList b.toList = decide (cmpB a b < 0) := by
  rw [Lib.toList_data, Lib.toList_data, less_cmp]; rfl
theorem below_dN {B : Nat} {a w : World} (h : Below B a w) (n : Nat) : Below B a (w.drewN n) := ⟨h.os, h.tape, h.output, h.size, h.block⟩
theorem ins_cells {sz : Nat} {F : Nat → List Value} (hF : ∀ a, (F a).length = sz) (D : List Nat) (i at_ : Nat) : (D.take at_ ++ i :: D.drop at_).flatMap F = [] ++ (D.flatMap F).take (at_ * sz) ++ F i ++ (D.flatMap F).drop (at_ * sz) := by
  rw [fm_take hF, fm_drop hF, List.flatMap_append, List.flatMap_cons, List.nil_append, List.append_assoc]
theorem rep_cells {sz : Nat} {F : Nat → List Value} (hF : ∀ a, (F a).length = sz) (D : List Nat) (i at_ : Nat) : (D.take at_ ++ i :: D.drop (at_ + 1)).flatMap F = (D.flatMap F).take (at_ * sz) ++ F i ++ (D.flatMap F).drop ((at_ + 1) * sz) := by
  rw [fm_take hF, fm_drop hF, List.flatMap_append, List.flatMap_cons, List.append_assoc]
theorem set6_list (xs : List Value) (o : Nat) (c0 c1 c2 c3 c4 c5 : Value) (h : o + 6 ≤ xs.length) : (((((xs.set o c0).set (o + 1) c1).set (o + 2) c2).set (o + 3) c3).set (o + 4) c4).set (o + 5) c5 = xs.take o ++ [c0, c1, c2, c3, c4, c5] ++ xs.drop (o + 6) := by
  apply List.ext_getElem?
  intro j
  simp only [List.getElem?_set, List.length_set]
  rcases Nat.lt_or_ge j o with h1 | h1
  · rw [List.append_assoc, List.getElem?_append_left (by rw [List.length_take]; omega), List.getElem?_take_of_lt h1]
    repeat rw [if_neg (by omega)]
  · rcases Nat.lt_or_ge j (o + 6) with h2 | h2
    · rw [List.getElem?_append_left (by simp; omega), List.getElem?_append_right (by rw [List.length_take]; omega), List.length_take, Nat.min_eq_left (by omega)]
      have : j = o ∨ j = o + 1 ∨ j = o + 2 ∨ j = o + 3 ∨ j = o + 4 ∨ j = o + 5 := by omega
      rcases this with rfl | rfl | rfl | rfl | rfl | rfl <;> simp <;> omega
    · rw [List.getElem?_append_right (by simp; omega), List.getElem?_drop]
      repeat rw [if_neg (by omega)]
      congr 1
      simp
      omega
theorem own_put6 {W : World} {base g n cap : Nat} {xs : List Value} (h : W.ownsRow base 33 6 (.slice (some ⟨g, 0, none⟩) n cap) n xs) (o : Nat) (c0 c1 c2 c3 c4 c5 : Value) (ho : o + 6 ≤ n * 6) :
    (put6 W g o c0 c1 c2 c3 c4 c5).ownsRow base 33 6 (.slice (some ⟨g, 0, none⟩) n cap) n (xs.take o ++ [c0, c1, c2, c3, c4, c5] ++ xs.drop (o + 6)) := by
  have hl := h.1
  rw [← set6_list xs o c0 c1 c2 c3 c4 c5 (by omega)]
  exact ((((((h.stored o c0).1.stored (o + 1) c1).1.stored (o + 2) c2).1.stored (o + 3) c3).1.stored (o + 4) c4).1.stored (o + 5) c5).1
theorem SlT.of_own' {S : Nat → Prop} {w : World} {sz base T n g cap : Nat} {L : List Value} (h : w.ownsRow base T sz (.slice (some ⟨g, 0, none⟩) n cap) n L) (h1 : ∀ u ∈ L, u.oneCell' = true) (hS : S g) : SlT S w sz (some ⟨g, 0, none⟩) n cap L := by
  obtain ⟨p, c, he, hs⟩ := SlT.of_own (S := S) h h1 (fun k hk => by injection hk with hk; have hk' : g = k := hk; rw [← hk']; exact hS)
  injection he with e1 e2 e3
  rw [e1, e3]; exact hs
theorem same_names {g : Nat → ByteArray} {D : List Nat} {len i at_ : Nat} (hl : D.length = len) (hat : at_ < len) (h : g (D.getD at_ 0) = g i) : (D.take at_ ++ i :: D.drop (at_ + 1)).flatMap (cN g) = D.flatMap (cN g) := by
  have hlt : at_ < D.length := by omega
  have e : D = D.take at_ ++ D[at_] :: D.drop (at_ + 1) := by rw [← List.drop_eq_getElem_cons hlt, List.take_append_drop]
  have e2 : cN g i = cN g D[at_] := by
    unfold cN
    rw [← h, List.getD_eq_getElem?_getD, List.getElem?_eq_getElem hlt]; rfl
  conv => rhs; rw [e]
  rw [List.flatMap_append, List.flatMap_cons, List.flatMap_append, List.flatMap_cons, e2]
set_option maxRecDepth 100000 in
set_option maxHeartbeats 8000000 in
theorem rstruct_any {B : Nat} {w : World} {q nc m pc : Nat} {na pa : Option Addr} {g : Nat → ByteArray} {f : Nat → Tr} {A : Nat → Ad} (N : Nat) (hN : N = min q m) (hN20 : N ≤ 20) (hB : B ≤ w.heap.size)
    (hnm : Names B w q g na nc) (hpm : m ≤ pc ∧ pc ≤ maxLen) (hp : 0 < m → ∃ b o, pa = some ⟨b, o, none⟩ ∧ b < B ∧ ∀ i, i < m → At6 w b (o + i * 6) (f i) (A i)) (hr : ∀ i, i < m → Lies B w (f i) (A i)) :
    Calls Try.prog 22 #[.slice na q nc, .slice pa m pc] w fun e w' => ∃ A', e = .returned ((docT g f (docP g N)).val A') ∧ LiesS (fun k => k < B ∨ (w.heap.size ≤ k ∧ k < w'.heap.size)) w' (docT g f (docP g N)) A' ∧ Below w.heap.size w w' := by
  obtain ⟨hq1, hq2, hq3, hq4⟩ := hnm
  have hmx : maxLen = 9223372036854775807 := rfl
  have HQ3 : Hid (∀ i, i < q → (g i).size ≤ maxLen) := hq3
  have HQ4 : Hid (0 < q → ∃ b o, na = some ⟨b, o, none⟩ ∧ b < B ∧ ∀ i, i < q → w.cell? ⟨b, o + i, none⟩ = some (.string (g i))) := hq4
  have HP : Hid (0 < m → ∃ b o, pa = some ⟨b, o, none⟩ ∧ b < B ∧ ∀ i, i < m → At6 w b (o + i * 6) (f i) (A i)) := hp
  have HR : Hid (∀ i, i < m → Lies B w (f i) (A i)) := hr
  have HN : Hid (N = min q m) := hN
  have hNq : N ≤ q := by rw [hN]; exact Nat.min_le_left _ _
  have hNm : N ≤ m := by rw [hN]; exact Nat.min_le_right _ _
  clear hq3 hq4 hp hr hN
  go_enter Try.func22, Try.ntmps22
  go_wp2_with fail
  obtain ⟨W2, hW2⟩ : ∃ W2, (w.alloc (.cells #[.int .i64 0, .bool false, .int .i64 0, .string ⟨#[]⟩, .slice none 0 0, .slice none 0 0] 33)).alloc (.cells #[.int .i64 6, .bool false, .int .i64 0, .string ⟨#[]⟩, .slice none 0 0, .slice none 0 0] 33) = W2 := ⟨_, rfl⟩
  have hb2 : Below w.heap.size w W2 := by rw [← hW2]; exact ((Below.refl _ w).alloc (Nat.le_refl _) _).alloc (by simp) _
  have hs2 : W2.heap.size = w.heap.size + 2 := by rw [← hW2]; simp
  have r0 : W2.heap[w.heap.size]? = some (.cells #[.int .i64 0, .bool false, .int .i64 0, .string ⟨#[]⟩, .slice none 0 0, .slice none 0 0] 33 (0, 0)) := by
    rw [← hW2, Below.heap_alloc _ _ _ (by simp)]; exact heap_alloc_new _ _
  have r1 : W2.heap[w.heap.size + 1]? = some (.cells #[.int .i64 6, .bool false, .int .i64 0, .string ⟨#[]⟩, .slice none 0 0, .slice none 0 0] 33 (0, 0)) := by
    rw [← hW2]; have := heap_alloc_new (w.alloc (.cells #[.int .i64 0, .bool false, .int .i64 0, .string ⟨#[]⟩, .slice none 0 0, .slice none 0 0] 33)) (.cells #[.int .i64 6, .bool false, .int .i64 0, .string ⟨#[]⟩, .slice none 0 0, .slice none 0 0] 33); simpa using this
  rw [hW2]
  clear hW2
  go_loopw [6] (fun c6 wr => ∃ (i len cp cn : Nat) (pp pn : Option Addr), i ≤ N ∧ c6 = .int .i64 (i : Int) ∧ (docP g i).length = len ∧ wr.heap[w.heap.size + 1]? = some (.cells #[.int .i64 6, .bool false, .int .i64 0, .string ⟨#[]⟩, .slice pp len cp, .slice pn len cn] 33 (0, 0)) ∧ wr.heap[w.heap.size]? = some (.cells #[.int .i64 0, .bool false, .int .i64 0, .string ⟨#[]⟩, .slice none 0 0, .slice none 0 0] 33 (0, 0)) ∧
      SlT (fun k => w.heap.size + 2 ≤ k ∧ k < wr.heap.size) wr 1 pn len cn ((docP g i).flatMap (cN g)) ∧ SlT (fun k => w.heap.size + 2 ≤ k ∧ k < wr.heap.size) wr 6 pp len cp ((docP g i).flatMap (cP f A)) ∧ Below w.heap.size w wr ∧ w.heap.size + 2 ≤ wr.heap.size) (fun c6 _ => N - (intOf c6).toNat)
  case atStart => exact ⟨0, 0, 0, 0, none, none, Nat.zero_le _, rfl, rfl, r1, r0, SlT.nil _ _ _, SlT.nil _ _ _, hb2, by omega⟩
  case round =>
    clear r0 r1 hb2 hs2
    obtain ⟨i, len, cp, cn, pp, pn, hi, rfl, hlen, hrow, hr0, hsn, hsp, hbw, hsz⟩ := hrel
    obtain ⟨wo, rfl⟩ : ∃ wo, wo = wr := ⟨_, rfl⟩
    by_cases hiN : i < N
    · have hiq : (i : Int) < (q : Int) := by omega
      have him : (i : Int) < (m : Int) := by omega
      obtain ⟨nb, no, rfl, hnb, hnc⟩ := HQ4.out (by omega)
      have eni := cell_later (hnc i (by omega)) hnb (hbw.mono hB)
      obtain ⟨pb, po, rfl, hpb, hat⟩ := HP.out (by omega)
      have h6 := (hat i (by omega)).later hpb (hbw.mono hB)
      have HLN : Hid ((docP g i).length = len) := hlen
      have hlen20 : len ≤ 20 := by have := docP_len g i; omega
      obtain ⟨gi, hgi⟩ : ∃ gi, g i = gi := ⟨_, rfl⟩
      rw [hgi] at eni
      have HGI : Hid (g i = gi) := hgi
      have HSN : Hid (SlT (fun k => w.heap.size + 2 ≤ k ∧ k < wo.heap.size) wo 1 pn len cn ((docP g i).flatMap (cN g))) := hsn
      have HSP : Hid (SlT (fun k => w.heap.size + 2 ≤ k ∧ k < wo.heap.size) wo 6 pp len cp ((docP g i).flatMap (cP f A))) := hsp
      have hcn := hsn.cap
      have hcp := hsp.cap
      have hlr := lt_of_row hrow
      clear hnc hat hlen hgi hsn hsp
      go_wp2_with fail
      go_loopw [7] (fun c7 wr => ∃ at_ : Nat, at_ ≤ len ∧ c7 = .int .i64 (at_ : Int) ∧ (∀ j, j < at_ → cmpB (g ((docP g i).getD j 0)) gi < 0) ∧ Below wo.heap.size wo wr ∧ wr.heap.size = wo.heap.size) (fun c7 _ => len - (intOf c7).toNat)
      case atStart => exact ⟨0, Nat.zero_le _, rfl, fun j hj => absurd hj (Nat.not_lt_zero j), Below.refl _ _, rfl⟩
      case round =>
        obtain ⟨at_, hat, rfl, hlo, hbx, hsx⟩ := hrel
        have HLO : Hid (∀ j, j < at_ → cmpB (g ((docP g i).getD j 0)) gi < 0) := hlo
        have xrow := (hbx.block _ hlr).trans hrow
        have x5 := cell_of_row wr _ 5 _ _ _ xrow
        have xni := cell_later eni (show nb < wo.heap.size by omega) hbx
        clear hlo
        by_cases hal : at_ < len
        · have hal' : (at_ : Int) < (len : Int) := by omega
          obtain ⟨b, o, rfl, hbS, hcs⟩ := names_at HSN.out HLN.out (by omega)
          have ea := cell_later (hcs at_ hal) hbS.2 hbx
          obtain ⟨sa, hsa⟩ : ∃ sa, g ((docP g i).getD at_ 0) = sa := ⟨_, rfl⟩
          rw [hsa] at ea
          have HSA : Hid (g ((docP g i).getD at_ 0) = sa) := hsa
          clear hcs hsa
          by_cases hc : cmpB sa gi < 0
          · have hless : Op.bytesLess sa.toList gi.toList = true := by rw [less_iff]; exact decide_eq_true hc
            have HC : Hid (cmpB sa gi < 0) := hc
            clear hc
            go_wp2_with fail
            go_quiet (fail)
            go_wp2_with fail
            go_roundw
            case rel =>
              refine ⟨at_ + 1, by omega, by go_num, fun j hj => ?_, below_dN hbx _, hsx⟩
              rcases Nat.lt_or_ge j at_ with h | h
              · exact HLO.out j h
              · obtain rfl : j = at_ := by omega
                rw [HSA.out]; exact HC.out
            case measure => simp [intOf]; omega
          · have hless : Op.bytesLess sa.toList gi.toList = false := by rw [less_iff]; exact decide_eq_false hc
            have HC : Hid (¬ cmpB sa gi < 0) := hc
            clear hc
            go_wp2_with fail
            go_quiet (fail)
            go_wp2_with fail
            rename Nat => n1
            have HLEN := HLN.out
            by_cases heq : cmpB sa gi = 0
            · have hq0 : (sa.toList == gi.toList) = true := by rw [cmpB_list]; exact decide_eq_true heq
              have HD : Hid (docP g (i + 1) = (docP g i).take at_ ++ i :: (docP g i).drop (at_ + 1)) := by
                have h0 := docI_at g i (docP g i) at_ (by omega) (fun j hj => by rw [HGI.out]; exact HLO.out j hj) (fun _ => by rw [HGI.out, HSA.out]; have := HC.out; omega)
                rw [if_pos ⟨by omega, by rw [HGI.out, HSA.out]; exact heq⟩] at h0
                exact h0
              have HSAE : Hid (g ((docP g i).getD at_ 0) = gi) := HSA.out.trans (cmpB_eq.1 heq)
              clear heq HLEN
              go_quiet (fail)
              rename Nat => n2
              obtain ⟨w1, hw1⟩ : ∃ w1, (wr.drewN n1).drewN n2 = w1 := ⟨_, rfl⟩
              have hb1 : Below wo.heap.size wo w1 := by rw [← hw1]; exact below_dN (below_dN hbx _) _
              have hs1a : w1.heap.size ≤ wo.heap.size := by rw [← hw1]; exact Nat.le_of_eq hsx
              have hs1b : wo.heap.size ≤ w1.heap.size := by rw [← hw1]; exact Nat.le_of_eq hsx.symm
              rw [hw1]
              clear hw1 hbx hsx xrow x5 xni
              have y1 := (hb1.block _ hlr).trans hrow
              have yr0 := (hb1.block _ (by omega)).trans hr0
              have hbw1 : Below w.heap.size w w1 := hbw.trans (hb1.mono (by omega))
              have y4 : w1.cell? ⟨w.heap.size + 1, 4, none⟩ = some (.slice pp len cp) := cell_of_row w1 _ 4 _ _ _ y1
              have y5 : w1.cell? ⟨w.heap.size + 1, 5, none⟩ = some (.slice (some (⟨b, o, none⟩ : Addr)) len cn) := cell_of_row w1 _ 5 _ _ _ y1
              have yni := cell_later eni (show nb < wo.heap.size by omega) hb1
              obtain ⟨ti, hti⟩ : ∃ ti, f i = ti := ⟨_, rfl⟩
              obtain ⟨ai, hai⟩ : ∃ ai, A i = ai := ⟨_, rfl⟩
              have y6 := h6.later (show pb < wo.heap.size by omega) hb1
              rw [hti, hai] at y6
              have HTI : Hid (f i = ti ∧ A i = ai) := ⟨hti, hai⟩
              clear hti hai
              have hac : (at_ : Int) ≤ (cn : Int) := by omega
              have hap : (at_ : Int) ≤ (cp : Int) := by omega
              have hal2 : (at_ : Int) ≤ (len : Int) := by omega
              have e0 : (w1.alloc (.cells #[] 33)).ownsRow w1.heap.size 33 6 (.slice (some ⟨w1.heap.size, 0, none⟩) 0 0) 0 [] := World.ownsRow_lit w1 #[] 0 (Nat.le_refl _) (by decide) rfl
              have b0 : Below w1.heap.size w1 (w1.alloc (.cells #[] 33)) := (Below.refl _ w1).alloc (Nat.le_refl _) _
              obtain ⟨YL, hYL⟩ : ∃ YL, (docP g i).flatMap (cP f A) = YL := ⟨_, rfl⟩
              have hY0 : SlT (fun k => w.heap.size + 2 ≤ k ∧ k < wo.heap.size) (w1.alloc (.cells #[] 33)) 6 pp len cp YL := by rw [← hYL]; exact HSP.out.kept (fun k hk => (b0.block k (by omega)).trans (hb1.block k hk.2))
              have HYE : Hid ((docP g i).flatMap (cP f A) = YL) := hYL
              have hYl : YL.length = len * 6 := hY0.len
              have hYo : ∀ u ∈ YL, u.oneCell' = true := hY0.one
              clear hYL
              obtain ⟨v', W', hrun, ho, hg, hbk⟩ := app31 e0 b0.size hY0 (by omega)
              obtain ⟨gb, cpb, rfl, hgB, hgl⟩ := ho.form (by omega)
              rw [Nat.zero_add] at hrun ho
              rw [List.nil_append] at ho
              have y4a : (w1.alloc (.cells #[] 33)).cell? ⟨w.heap.size + 1, 4, none⟩ = some (.slice pp len cp) := cell_kept y4 (Below.heap_alloc _ _ _ (block_lt y4))
              have hbW : Below w1.heap.size w1 W' := b0.grown hg b0.size (fun k hk => (e0.lt k hk).1)
              have x1 := (hbW.block _ (lt_of_row y1)).trans y1
              have xr0 := (hbW.block _ (by omega)).trans yr0
              have x4 := cell_of_row W' _ 4 _ _ _ x1
              have xz4 := frozen_of_row W' _ 4 _ _ x1
              have h6' := y6.kept (hbW.block pb (by omega))
              have d0 := h6'.c0
              have d1 := h6'.c1
              have d2 := h6'.c2
              have d3 := h6'.c3
              have d4 := h6'.c4
              have d5 := h6'.c5
              have hce : ∀ c, c < 6 → ∃ v, W'.cell? ⟨gb, at_ * 6 + c, none⟩ = some v := fun c hc => ⟨_, (ho.cellAt _ (by omega)).trans (List.getElem?_eq_getElem (by omega))⟩
              obtain ⟨v0, e0'⟩ := hce 0 (by omega)
              have k0 := ho.frozenAt (at_ * 6 + 0)
              obtain ⟨v1, e1'⟩ := hce 1 (by omega)
              have k1 := ho.frozenAt (at_ * 6 + 1)
              obtain ⟨v2, e2'⟩ := hce 2 (by omega)
              have k2 := ho.frozenAt (at_ * 6 + 2)
              obtain ⟨v3, e3'⟩ := hce 3 (by omega)
              have k3 := ho.frozenAt (at_ * 6 + 3)
              obtain ⟨v4, e4'⟩ := hce 4 (by omega)
              have k4 := ho.frozenAt (at_ * 6 + 4)
              obtain ⟨v5, e5'⟩ := hce 5 (by omega)
              have k5 := ho.frozenAt (at_ * 6 + 5)
              rw [Nat.add_zero] at e0' k0
              have hne1 : ¬ gb = w.heap.size + 1 := by omega
              have hne2 : ¬ w.heap.size + 1 = gb := by omega
              have hnm : (at_ : Int) < (len : Int) := by omega
              have HO : Hid (W'.ownsRow w1.heap.size 33 6 (.slice (some ⟨gb, 0, none⟩) len cpb) len YL) := ho
              have hbW' : Below w.heap.size w W' := hbw1.trans (hbW.mono (by omega))
              have HSN1 : Hid (SlT (fun k => w.heap.size + 2 ≤ k ∧ k < wo.heap.size) W' 1 (some (⟨b, o, none⟩ : Addr)) len cn ((docP g i).flatMap (cN g))) := HSN.out.kept (fun k hk => (hbW.block k (by omega)).trans (hb1.block k hk.2))
              have hWs := hbW.size
              have HYL : Hid (YL.length = len * 6) := hYl
              have HYO : Hid (∀ u ∈ YL, u.oneCell' = true) := hYo
              clear e0 hg hbk ho hce h6' hbW hb1 y6 hbw1 hY0 b0 hYl hYo hal hal' hat hcn hcp hpm hNq hNm hq1 hq2 y4 y5 yni y1 yr0 eni h6 hrow hr0 hbw
              go_wp2_with (at_builtin; refine Lib.wpList_append_run _ rfl _ _ _ _ rfl _ _ rfl rfl _ _ hrun ?_)
              have hp := own_put6 HO.out (at_ * 6) (.int .i64 ti.k) (.bool ti.b) (.int .i64 ti.n) (.string ti.s) (.slice ai.pa ti.m ai.pc) (.slice ai.na ti.q ai.nc) (by omega)
              have hk5 : ∀ k, k ≠ gb → (put6 W' gb (at_ * 6) (.int .i64 ti.k) (.bool ti.b) (.int .i64 ti.n) (.string ti.s) (.slice ai.pa ti.m ai.pc) (.slice ai.na ti.q ai.nc)).heap[k]? = W'.heap[k]? := fun k hk => put6_block _ _ _ _ _ _ _ _ _ k hk
              have hs5 : (put6 W' gb (at_ * 6) (.int .i64 ti.k) (.bool ti.b) (.int .i64 ti.n) (.string ti.s) (.slice ai.pa ti.m ai.pc) (.slice ai.na ti.q ai.nc)).heap.size = W'.heap.size := put6_size _ _ _ _ _ _ _ _ _
              have hb5 : Below w.heap.size w (put6 W' gb (at_ * 6) (.int .i64 ti.k) (.bool ti.b) (.int .i64 ti.n) (.string ti.s) (.slice ai.pa ti.m ai.pc) (.slice ai.na ti.q ai.nc)) := put6_below hbW' gb (at_ * 6) (by omega) (.int .i64 ti.k) (.bool ti.b) (.int .i64 ti.n) (.string ti.s) (.slice ai.pa ti.m ai.pc) (.slice ai.na ti.q ai.nc)
              obtain ⟨W5, hW5⟩ : ∃ W5, (((((W'.setCell ⟨gb, at_ * 6, none⟩ (.int .i64 ti.k)).setCell ⟨gb, at_ * 6 + 1, none⟩ (.bool ti.b)).setCell ⟨gb, at_ * 6 + 2, none⟩ (.int .i64 ti.n)).setCell ⟨gb, at_ * 6 + 3, none⟩ (.string ti.s)).setCell ⟨gb, at_ * 6 + 4, none⟩ (.slice ai.pa ti.m ai.pc)).setCell ⟨gb, at_ * 6 + 5, none⟩ (.slice ai.na ti.q ai.nc) = W5 := ⟨_, rfl⟩
              have hput : put6 W' gb (at_ * 6) (.int .i64 ti.k) (.bool ti.b) (.int .i64 ti.n) (.string ti.s) (.slice ai.pa ti.m ai.pc) (.slice ai.na ti.q ai.nc) = W5 := hW5
              rw [hput] at hp hk5 hs5 hb5
              rw [hW5]
              clear hW5 hput
              have x5 := (hk5 _ hne2).trans x1
              have f1 := row_setCell (k := 4) x5 (.slice (some ⟨gb, 0, none⟩) len cpb)
              have hkf : ∀ k, k ≠ w.heap.size + 1 → (W5.setCell ⟨w.heap.size + 1, 4, none⟩ (.slice (some ⟨gb, 0, none⟩) len cpb)).heap[k]? = W5.heap[k]? := fun k hk => Below.heap_setCell _ _ _ k hk
              have hszf : (W5.setCell ⟨w.heap.size + 1, 4, none⟩ (.slice (some ⟨gb, 0, none⟩) len cpb)).heap.size = W5.heap.size := by simp
              have f0 := (hkf w.heap.size (by omega)).trans ((hk5 _ (by omega)).trans xr0)
              have hbf := hb5.setCell (p := ⟨w.heap.size + 1, 4, none⟩) (show w.heap.size ≤ w.heap.size + 1 by omega) (.slice (some ⟨gb, 0, none⟩) len cpb)
              have fN := (HSN1.out.kept (w' := W5.setCell ⟨w.heap.size + 1, 4, none⟩ (.slice (some ⟨gb, 0, none⟩) len cpb)) (fun k hk => (hkf k (by omega)).trans (hk5 k (by omega)))).up (S' := fun k => w.heap.size + 2 ≤ k ∧ k < (W5.setCell ⟨w.heap.size + 1, 4, none⟩ (.slice (some ⟨gb, 0, none⟩) len cpb)).heap.size) (fun k hk => ⟨hk.1, by omega⟩)
              have hgW : gb < W'.heap.size := hgl
              have fP := ((SlT.of_own' (S := fun k => k = gb) hp (by intro u hu; simp only [List.mem_append] at hu; rcases hu with (hu | hu) | hu; exact HYO.out u (List.mem_of_mem_take hu); exact cs_one' ti ai u hu; exact HYO.out u (List.mem_of_mem_drop hu)) rfl).kept (w' := W5.setCell ⟨w.heap.size + 1, 4, none⟩ (.slice (some ⟨gb, 0, none⟩) len cpb)) (fun k hk => hkf k (by omega))).up (S' := fun k => w.heap.size + 2 ≤ k ∧ k < (W5.setCell ⟨w.heap.size + 1, 4, none⟩ (.slice (some ⟨gb, 0, none⟩) len cpb)).heap.size) (fun k hk => ⟨by omega, by omega⟩)
              have hDe := HD.out
              have fN' : SlT (fun k => w.heap.size + 2 ≤ k ∧ k < (W5.setCell ⟨w.heap.size + 1, 4, none⟩ (.slice (some ⟨gb, 0, none⟩) len cpb)).heap.size) (W5.setCell ⟨w.heap.size + 1, 4, none⟩ (.slice (some ⟨gb, 0, none⟩) len cpb)) 1 (some (⟨b, o, none⟩ : Addr)) len cn ((docP g (i + 1)).flatMap (cN g)) := by rw [hDe, same_names HLN.out (by omega) (HSAE.out.trans HGI.out.symm)]; exact fN
              have fP' : SlT (fun k => w.heap.size + 2 ≤ k ∧ k < (W5.setCell ⟨w.heap.size + 1, 4, none⟩ (.slice (some ⟨gb, 0, none⟩) len cpb)).heap.size) (W5.setCell ⟨w.heap.size + 1, 4, none⟩ (.slice (some ⟨gb, 0, none⟩) len cpb)) 6 (some ⟨gb, 0, none⟩) len cpb ((docP g (i + 1)).flatMap (cP f A)) := by rw [hDe, rep_cells (cP_len f A), HYE.out, show cP f A i = ti.cs ai by unfold cP; rw [HTI.out.1, HTI.out.2], show (at_ + 1) * 6 = at_ * 6 + 6 by omega]; exact fP
              have hll : (docP g (i + 1)).length = len := by rw [hDe, List.length_append, List.length_cons, List.length_take, List.length_drop, HLN.out]; omega
              clear fN fP hDe HSN1 HO
              go_roundw
              case rel => exact ⟨i + 1, len, cpb, cn, some ⟨gb, 0, none⟩, (some (⟨b, o, none⟩ : Addr)), by omega, by go_num, hll, f1, f0, fN', fP', hbf, by omega⟩
              case measure => simp [intOf]; omega
            · have hq0 : (sa.toList == gi.toList) = false := by rw [cmpB_list]; exact decide_eq_false heq
              have HD : Hid (docP g (i + 1) = (docP g i).take at_ ++ i :: (docP g i).drop at_) := by
                have h0 := docI_at g i (docP g i) at_ (by omega) (fun j hj => by rw [HGI.out]; exact HLO.out j hj) (fun _ => by rw [HGI.out, HSA.out]; have := HC.out; omega)
                rw [if_neg (fun h => heq (by rw [← HSA.out, ← HGI.out]; exact h.2))] at h0
                exact h0
              clear heq HLEN
              go_quiet (fail)
              rename Nat => n2
              obtain ⟨w1, hw1⟩ : ∃ w1, (wr.drewN n1).drewN n2 = w1 := ⟨_, rfl⟩
              have hb1 : Below wo.heap.size wo w1 := by rw [← hw1]; exact below_dN (below_dN hbx _) _
              have hs1a : w1.heap.size ≤ wo.heap.size := by rw [← hw1]; exact Nat.le_of_eq hsx
              have hs1b : wo.heap.size ≤ w1.heap.size := by rw [← hw1]; exact Nat.le_of_eq hsx.symm
              rw [hw1]
              clear hw1 hbx hsx xrow x5 xni
              go_wp2_with fail
              obtain ⟨Bz, hBz⟩ : ∃ Bz, w1.heap.size = Bz := ⟨_, rfl⟩
              have HBz : Hid (w1.heap.size = Bz) := hBz
              have y1 := (hb1.block _ hlr).trans hrow
              have yr0 := (hb1.block _ (by omega)).trans hr0
              have hbw1 : Below w.heap.size w w1 := hbw.trans (hb1.mono (by omega))
              have y4 : w1.cell? ⟨w.heap.size + 1, 4, none⟩ = some (.slice pp len cp) := cell_of_row w1 _ 4 _ _ _ y1
              have y5 : w1.cell? ⟨w.heap.size + 1, 5, none⟩ = some (.slice (some (⟨b, o, none⟩ : Addr)) len cn) := cell_of_row w1 _ 5 _ _ _ y1
              have yni := cell_later eni (show nb < wo.heap.size by omega) hb1
              obtain ⟨ti, hti⟩ : ∃ ti, f i = ti := ⟨_, rfl⟩
              obtain ⟨ai, hai⟩ : ∃ ai, A i = ai := ⟨_, rfl⟩
              have y6 := h6.later (show pb < wo.heap.size by omega) hb1
              rw [hti, hai] at y6
              have HTI : Hid (f i = ti ∧ A i = ai) := ⟨hti, hai⟩
              clear hti hai
              have hac : (at_ : Int) ≤ (cn : Int) := by omega
              have hap : (at_ : Int) ≤ (cp : Int) := by omega
              have hal2 : (at_ : Int) ≤ (len : Int) := by omega
              obtain ⟨XL, hXL⟩ : ∃ XL, (docP g i).flatMap (cN g) = XL := ⟨_, rfl⟩
              have HXL : Hid (SlT (fun k => w.heap.size + 2 ≤ k ∧ k < wo.heap.size) w1 1 (some (⟨b, o, none⟩ : Addr)) len cn XL) := by rw [← hXL]; exact HSN.out.kept (fun k hk => hb1.block k hk.2)
              have HXE : Hid ((docP g i).flatMap (cN g) = XL) := hXL
              clear hXL
              refine any_tail3 (by kernel_rfl) 17 (by exact Nat.le_of_ble_eq_true rfl) (fun i => i + 71) (RO 9 1 Bz [(0, 0, []), (5, (0 + at_), ([] ++ XL.take (at_ * 1))), (10, 1, [.string gi]), (11, (0 + at_ + 1), ([] ++ XL.take (at_ * 1) ++ [.string gi])), (16, (0 + at_ + 1 + (len - at_)), ([] ++ XL.take (at_ * 1) ++ [.string gi] ++ XL.drop (at_ * 1)))] [undef, .pointer (some ⟨w.heap.size + 1, 5, none⟩), .slice (some (⟨b, o, none⟩ : Addr)) len cn, .int .i64 (at_ : Int), .slice (some (⟨b, o, none⟩ : Addr)) at_ cn, undef, .slice (some ⟨nb, no, none⟩) q nc, .int .i64 (i : Int), .pointer (some ⟨nb, no + i, none⟩), .string gi, undef, undef, .pointer (some ⟨w.heap.size + 1, 5, none⟩), .slice (some (⟨b, o, none⟩ : Addr)) len cn, .int .i64 (at_ : Int), .slice (if cn = at_ then (some (⟨b, o, none⟩ : Addr)) else Option.map (fun x => x.add (at_ * 1)) (some (⟨b, o, none⟩ : Addr))) (len - at_) (cn - at_), undef]) (bxO [(0, 0, []), (5, (0 + at_), ([] ++ XL.take (at_ * 1))), (10, 1, [.string gi]), (11, (0 + at_ + 1), ([] ++ XL.take (at_ * 1) ++ [.string gi])), (16, (0 + at_ + 1 + (len - at_)), ([] ++ XL.take (at_ * 1) ++ [.string gi] ++ XL.drop (at_ * 1)))]) (fun j => if j = 5 then some 0 else if j = 11 then some 5 else if j = 16 then some 11 else none) (by kernel_rfl) (by kernel_rfl) (by kernel_rfl) (by kernel_rfl) (by kernel_rfl) (fun i u W W' row h1 h2 h3 _ _ => RO.r0 i u W W' row h1 h2 h3) (fun i u W W' row h1 h2 h3 h4 => RO.r1 i u W W' row h1 h2 h3 h4) ?step ?post
              case step =>
                intro iq hiq a W hrest hb hk
                have hp0 : a.eval (.tmp 0) = .slice (some ⟨nb, no, none⟩) q nc := (hrest 0 (by intro iq2 hiq2; (repeat' split) <;> omega)).trans rfl
                have fp0 := ev hp0
                have hp5 : a.eval (.tmp 5) = .pointer (some ⟨w.heap.size + 1, 0, none⟩) := (hrest 5 (by intro iq2 hiq2; (repeat' split) <;> omega)).trans rfl
                have fp5 := ev hp5
                have hp6 : a.eval (.tmp 6) = .int .i64 (i : Int) := (hrest 6 (by intro iq2 hiq2; (repeat' split) <;> omega)).trans rfl
                have fp6 := ev hp6
                have hp7 : a.eval (.tmp 7) = .int .i64 (at_ : Int) := (hrest 7 (by intro iq2 hiq2; (repeat' split) <;> omega)).trans rfl
                have fp7 := ev hp7
                clear hrest
                have hBW : Bz ≤ W.heap.size := by have := hb.size; omega
                have cz := cell_kept y5 (hb.block _ (block_lt y5))
                have en := cell_kept yni (hb.block _ (block_lt yni))
                obtain rfl | rfl | rfl | rfl | rfl | rfl | rfl | rfl | rfl | rfl | rfl | rfl | rfl | rfl | rfl | rfl | rfl : iq = 0 ∨ iq = 1 ∨ iq = 2 ∨ iq = 3 ∨ iq = 4 ∨ iq = 5 ∨ iq = 6 ∨ iq = 7 ∨ iq = 8 ∨ iq = 9 ∨ iq = 10 ∨ iq = 11 ∨ iq = 12 ∨ iq = 13 ∨ iq = 14 ∨ iq = 15 ∨ iq = 16 := by omega
                · clear hiq
                  clear hk
                  refine ⟨_, rfl, rfl, rfl, wp_value (v := .slice (some ⟨W.heap.size, 0, none⟩) 0 0) (w' := W.alloc (.cells #[] 9)) ?_ ⟨_, none, rfl, World.grownBy_alloc _ _ _, (fun _ h => by cases h), (World.ownsRow_lit W #[] 0 hBW (by decide) rfl : (W.alloc (.cells #[] 9)).ownsRow Bz 9 1 (.slice (some ⟨W.heap.size, 0, none⟩) 0 0) 0 []), fun _ g hg => ?_⟩⟩
                  · go_simp
                  · have : g = W.heap.size := by simpa [Value.ownBlock] using hg.symm
                    subst this
                    exact ⟨lt_of_row (heap_alloc_new W _), Or.inl (Nat.le_refl _)⟩
                · clear hiq
                  clear hk
                  refine ⟨_, rfl, rfl, rfl, wp_value (v := .pointer (some ⟨w.heap.size + 1, 5, none⟩)) (w' := W) ?_ ⟨_, none, rfl, World.grownBy.refl _ _, (fun _ h => by cases h), rfl, fun h => nomatch (show false = true from h)⟩⟩
                  go_simp
                · clear hiq
                  have e1 : a.eval (.tmp 72) = .pointer (some ⟨w.heap.size + 1, 5, none⟩) := hk 1 (mem_of (by kernel_rfl))
                  have f1 := ev e1
                  clear hk
                  refine ⟨_, rfl, rfl, rfl, wp_value (v := .slice (some (⟨b, o, none⟩ : Addr)) len cn) (w' := W) ?_ ⟨_, none, rfl, World.grownBy.refl _ _, (fun _ h => by cases h), rfl, fun h => nomatch (show false = true from h)⟩⟩
                  go_simp
                · clear hiq
                  clear hk
                  refine ⟨_, rfl, rfl, rfl, wp_value (v := .int .i64 (at_ : Int)) (w' := W) ?_ ⟨_, none, rfl, World.grownBy.refl _ _, (fun _ h => by cases h), rfl, fun h => nomatch (show false = true from h)⟩⟩
                  go_simp
                · clear hiq
                  have e2 : a.eval (.tmp 73) = .slice (some (⟨b, o, none⟩ : Addr)) len cn := hk 2 (mem_of (by kernel_rfl))
                  have f2 := ev e2
                  have e3 : a.eval (.tmp 74) = .int .i64 (at_ : Int) := hk 3 (mem_of (by kernel_rfl))
                  have f3 := ev e3
                  clear hk
                  refine ⟨_, rfl, rfl, rfl, wp_value (v := .slice (some (⟨b, o, none⟩ : Addr)) at_ cn) (w' := W) ?_ ⟨_, none, rfl, World.grownBy.refl _ _, (fun _ h => by cases h), rfl, fun h => nomatch (show false = true from h)⟩⟩
                  go_simp
                · clear hiq
                  have e0 : W.ownsRow Bz 9 1 (a.eval (.tmp 71)) 0 [] := hk 0 (mem_of (by kernel_rfl))
                  have e4 : a.eval (.tmp 75) = .slice (some (⟨b, o, none⟩ : Addr)) at_ cn := hk 4 (mem_of (by kernel_rfl))
                  have f4 := ev e4
                  clear hk
                  obtain ⟨v', W', hr, ho, hg, hbk⟩ := app23 e0 hBW ((HXL.out.kept (fun k hk => hb.block k (by omega))).first (by omega : at_ ≤ len)) (by omega)
                  refine ⟨_, rfl, rfl, rfl, wp_app (.tmp 71) (.tmp 75) rfl rfl rfl e4 hr ⟨_, _, rfl, hg, fun g h => ⟨0, rfl, h⟩, ho, fun _ g h => ⟨own_blk ho g h, ?_⟩⟩⟩
                  rcases hbk with hbk | hbk
                  · exact Or.inr ⟨0, rfl, hbk.symm.trans h⟩
                  · exact Or.inl (by rw [hbk] at h; cases h; exact Nat.le_refl _)
                · clear hiq
                  clear hk
                  refine ⟨_, rfl, rfl, rfl, wp_value (v := .slice (some ⟨nb, no, none⟩) q nc) (w' := W) ?_ ⟨_, none, rfl, World.grownBy.refl _ _, (fun _ h => by cases h), rfl, fun h => nomatch (show false = true from h)⟩⟩
                  go_simp
                · clear hiq
                  clear hk
                  refine ⟨_, rfl, rfl, rfl, wp_value (v := .int .i64 (i : Int)) (w' := W) ?_ ⟨_, none, rfl, World.grownBy.refl _ _, (fun _ h => by cases h), rfl, fun h => nomatch (show false = true from h)⟩⟩
                  go_simp
                · clear hiq
                  have e6 : a.eval (.tmp 77) = .slice (some ⟨nb, no, none⟩) q nc := hk 6 (mem_of (by kernel_rfl))
                  have f6 := ev e6
                  have e7 : a.eval (.tmp 78) = .int .i64 (i : Int) := hk 7 (mem_of (by kernel_rfl))
                  have f7 := ev e7
                  clear hk
                  refine ⟨_, rfl, rfl, rfl, wp_value (v := .pointer (some ⟨nb, no + i, none⟩)) (w' := W) ?_ ⟨_, none, rfl, World.grownBy.refl _ _, (fun _ h => by cases h), rfl, fun h => nomatch (show false = true from h)⟩⟩
                  go_simp
                · clear hiq
                  have e8 : a.eval (.tmp 79) = .pointer (some ⟨nb, no + i, none⟩) := hk 8 (mem_of (by kernel_rfl))
                  have f8 := ev e8
                  clear hk
                  refine ⟨_, rfl, rfl, rfl, wp_value (v := .string gi) (w' := W) ?_ ⟨_, none, rfl, World.grownBy.refl _ _, (fun _ h => by cases h), rfl, fun h => nomatch (show false = true from h)⟩⟩
                  go_simp
                · clear hiq
                  have e9 : a.eval (.tmp 80) = .string gi := hk 9 (mem_of (by kernel_rfl))
                  have f9 := ev e9
                  clear hk
                  refine ⟨_, rfl, rfl, rfl, wp_value (v := .slice (some ⟨W.heap.size, 0, none⟩) 1 1) (w' := W.alloc (.cells #[.string gi] 9)) ?_ ⟨_, none, rfl, World.grownBy_alloc _ _ _, (fun _ h => by cases h), (World.ownsRow_lit W #[.string gi] 1 hBW (by decide) rfl : (W.alloc (.cells #[.string gi] 9)).ownsRow Bz 9 1 (.slice (some ⟨W.heap.size, 0, none⟩) 1 1) 1 [.string gi]), fun _ g hg => ?_⟩⟩
                  · go_simp
                  · have : g = W.heap.size := by simpa [Value.ownBlock] using hg.symm
                    subst this
                    exact ⟨lt_of_row (heap_alloc_new W _), Or.inl (Nat.le_refl _)⟩
                · clear hiq
                  have e5 : W.ownsRow Bz 9 1 (a.eval (.tmp 76)) (0 + at_) ([] ++ XL.take (at_ * 1)) := hk 5 (mem_of (by kernel_rfl))
                  have e10 : W.ownsRow Bz 9 1 (a.eval (.tmp 81)) 1 [.string gi] := hk 10 (mem_of (by kernel_rfl))
                  clear hk
                  obtain ⟨q8, d8, hq8, s8⟩ := SlT.of_own (S := fun _ => True) e10 (by intro u hu; simp only [List.mem_cons, List.not_mem_nil, or_false] at hu; rcases hu with rfl; rfl) (fun _ _ => trivial)
                  obtain ⟨v', W', hr, ho, hg, hbk⟩ := app23 e5 hBW s8 (by omega)
                  refine ⟨_, rfl, rfl, rfl, wp_app (.tmp 76) (.tmp 81) rfl rfl rfl hq8 hr ⟨_, _, rfl, hg, fun g h => ⟨5, rfl, h⟩, ho, fun _ g h => ⟨own_blk ho g h, ?_⟩⟩⟩
                  rcases hbk with hbk | hbk
                  · exact Or.inr ⟨5, rfl, hbk.symm.trans h⟩
                  · exact Or.inl (by rw [hbk] at h; cases h; exact Nat.le_refl _)
                · clear hiq
                  clear hk
                  refine ⟨_, rfl, rfl, rfl, wp_value (v := .pointer (some ⟨w.heap.size + 1, 5, none⟩)) (w' := W) ?_ ⟨_, none, rfl, World.grownBy.refl _ _, (fun _ h => by cases h), rfl, fun h => nomatch (show false = true from h)⟩⟩
                  go_simp
                · clear hiq
                  have e12 : a.eval (.tmp 83) = .pointer (some ⟨w.heap.size + 1, 5, none⟩) := hk 12 (mem_of (by kernel_rfl))
                  have f12 := ev e12
                  clear hk
                  refine ⟨_, rfl, rfl, rfl, wp_value (v := .slice (some (⟨b, o, none⟩ : Addr)) len cn) (w' := W) ?_ ⟨_, none, rfl, World.grownBy.refl _ _, (fun _ h => by cases h), rfl, fun h => nomatch (show false = true from h)⟩⟩
                  go_simp
                · clear hiq
                  clear hk
                  refine ⟨_, rfl, rfl, rfl, wp_value (v := .int .i64 (at_ : Int)) (w' := W) ?_ ⟨_, none, rfl, World.grownBy.refl _ _, (fun _ h => by cases h), rfl, fun h => nomatch (show false = true from h)⟩⟩
                  go_simp
                · clear hiq
                  have e13 : a.eval (.tmp 84) = .slice (some (⟨b, o, none⟩ : Addr)) len cn := hk 13 (mem_of (by kernel_rfl))
                  have f13 := ev e13
                  have e14 : a.eval (.tmp 85) = .int .i64 (at_ : Int) := hk 14 (mem_of (by kernel_rfl))
                  have f14 := ev e14
                  clear hk
                  refine ⟨_, rfl, rfl, rfl, wp_value (v := .slice (if cn = at_ then (some (⟨b, o, none⟩ : Addr)) else Option.map (fun x => x.add (at_ * 1)) (some (⟨b, o, none⟩ : Addr))) (len - at_) (cn - at_)) (w' := W) ?_ ⟨_, none, rfl, World.grownBy.refl _ _, (fun _ h => by cases h), rfl, fun h => nomatch (show false = true from h)⟩⟩
                  go_simp
                · clear hiq
                  have e11 : W.ownsRow Bz 9 1 (a.eval (.tmp 82)) (0 + at_ + 1) ([] ++ XL.take (at_ * 1) ++ [.string gi]) := hk 11 (mem_of (by kernel_rfl))
                  have e15 : a.eval (.tmp 86) = .slice (if cn = at_ then (some (⟨b, o, none⟩ : Addr)) else Option.map (fun x => x.add (at_ * 1)) (some (⟨b, o, none⟩ : Addr))) (len - at_) (cn - at_) := hk 15 (mem_of (by kernel_rfl))
                  have f15 := ev e15
                  clear hk
                  obtain ⟨v', W', hr, ho, hg, hbk⟩ := app23 e11 hBW ((HXL.out.kept (fun k hk => hb.block k (by omega))).last (by omega : at_ ≤ len)) (by omega)
                  refine ⟨_, rfl, rfl, rfl, wp_app (.tmp 82) (.tmp 86) rfl rfl rfl e15 hr ⟨_, _, rfl, hg, fun g h => ⟨11, rfl, h⟩, ho, fun _ g h => ⟨own_blk ho g h, ?_⟩⟩⟩
                  rcases hbk with hbk | hbk
                  · exact Or.inr ⟨11, rfl, hbk.symm.trans h⟩
                  · exact Or.inl (by rw [hbk] at h; cases h; exact Nat.le_refl _)
              case post =>
                intro V W hb hV
                have h16 : W.ownsRow Bz 9 1 (V 16) (0 + at_ + 1 + (len - at_)) ([] ++ XL.take (at_ * 1) ++ [.string gi] ++ XL.drop (at_ * 1)) := hV 16 (by decide) (by decide)
                have hbz : Below w1.heap.size w1 W := hb
                have hgl : ∀ k, (V 16).ownBlock = some k → w1.heap.size ≤ k ∧ k < W.heap.size := fun k hk => by have := h16.lt k hk; omega
                clear hV hb
                obtain ⟨q1, d1, hq1, hS1⟩ := SlT.of_own (S := fun k => w1.heap.size ≤ k ∧ k < W.heap.size) h16 (by intro u hu; simp only [List.nil_append, List.mem_append, List.mem_cons, List.not_mem_nil, or_false] at hu; rcases hu with (hu | rfl) | hu; exact HXL.out.one u (List.mem_of_mem_take hu); rfl; exact HXL.out.one u (List.mem_of_mem_drop hu)) hgl
                clear h16 hgl
                have x1 := (hbz.block _ (lt_of_row y1)).trans y1
                have xz5 := frozen_of_row W _ 5 _ _ x1
                have xz5c := cell_of_row W _ 5 _ _ _ x1
                obtain ⟨len1, hlen1⟩ : ∃ len1, 0 + at_ + 1 + (len - at_) = len1 := ⟨_, rfl⟩
                have HL1 : Hid (0 + at_ + 1 + (len - at_) = len1) := hlen1
                rw [hlen1] at hq1 hS1
                have HS1 : Hid (SlT (fun k => w1.heap.size ≤ k ∧ k < W.heap.size) W 1 q1 len1 d1 ([] ++ XL.take (at_ * 1) ++ [.string gi] ++ XL.drop (at_ * 1))) := hS1
                clear hlen1 hS1
                simp only [putAll, hq1]
                clear hq1
                go_wp2_with fail
                obtain ⟨w3, hw3⟩ : ∃ w3, W.setCell ⟨w.heap.size + 1, 5, none⟩ (.slice q1 len1 d1) = w3 := ⟨_, rfl⟩
                have g1 : w3.heap[w.heap.size + 1]? = some (.cells #[.int .i64 6, .bool false, .int .i64 0, .string ⟨#[]⟩, .slice pp len cp, .slice q1 len1 d1] 33 (0, 0)) := by rw [← hw3]; exact row_setCell (k := 5) x1 _
                have hk3 : ∀ k, k ≠ w.heap.size + 1 → w3.heap[k]? = W.heap[k]? := fun k hk => by rw [← hw3]; exact Below.heap_setCell _ _ _ k hk
                have hsz3 : w3.heap.size = W.heap.size := by rw [← hw3]; simp
                have hb3 : Below w.heap.size w w3 := by rw [← hw3]; exact (hbw1.trans (hbz.mono (by omega))).setCell (p := ⟨w.heap.size + 1, 5, none⟩) (by show w.heap.size ≤ w.heap.size + 1; omega) _
                rw [hw3]
                clear hw3
                have hzs := hbz.size
                have k13 : ∀ k, k < w1.heap.size → k ≠ w.heap.size + 1 → w3.heap[k]? = w1.heap[k]? := fun k h1 h2 => (hk3 k h2).trans (hbz.block k h1)
                have g0 := (k13 w.heap.size (by omega) (by omega)).trans yr0
                have HS3 : Hid (SlT (fun k => w1.heap.size ≤ k ∧ k < w3.heap.size) w3 1 q1 len1 d1 ([] ++ XL.take (at_ * 1) ++ [.string gi] ++ XL.drop (at_ * 1))) := by rw [hsz3]; exact HS1.out.kept (fun k hk => hk3 k (by omega))
                have t6 := y6.kept (k13 pb (by omega) (by omega))
                have t4 := cell_of_row w3 _ 4 _ _ _ g1
                have HT4 : Hid (At6 w3 pb (po + i * 6) ti ai) := t6
                obtain ⟨YL, hYL⟩ : ∃ YL, (docP g i).flatMap (cP f A) = YL := ⟨_, rfl⟩
                have HYL : Hid (SlT (fun k => w.heap.size + 2 ≤ k ∧ k < wo.heap.size) w3 6 pp len cp YL) := by rw [← hYL]; exact HSP.out.kept (fun k hk => (k13 k (by omega) (by omega)).trans (hb1.block k hk.2))
                have HYE : Hid ((docP g i).flatMap (cP f A) = YL) := hYL
                have hs13 : wo.heap.size ≤ w3.heap.size := by omega
                clear hYL HXL HS1 x1 xz5 xz5c hk3 k13 y4 y5 y1 yni yr0 hbz hbw1 t6
                obtain ⟨Bz2, hBz2⟩ : ∃ Bz2, w3.heap.size = Bz2 := ⟨_, rfl⟩
                refine any_tail3 (by kernel_rfl) 17 (by exact Nat.le_of_ble_eq_true rfl) (fun i => i + 89) (RO 33 6 Bz2 [(0, 0, []), (5, (0 + at_), ([] ++ YL.take (at_ * 6))), (10, 1, (ti.cs ai)), (11, (0 + at_ + 1), ([] ++ YL.take (at_ * 6) ++ (ti.cs ai))), (16, (0 + at_ + 1 + (len - at_)), ([] ++ YL.take (at_ * 6) ++ (ti.cs ai) ++ YL.drop (at_ * 6)))] [undef, .pointer (some ⟨w.heap.size + 1, 4, none⟩), .slice pp len cp, .int .i64 (at_ : Int), .slice pp at_ cp, undef, .slice (some ⟨pb, po, none⟩) m pc, .int .i64 (i : Int), .pointer (some ⟨pb, po + i * 6, none⟩), .agg #[.int .i64 ti.k, .bool ti.b, .int .i64 ti.n, .string ti.s, .slice ai.pa ti.m ai.pc, .slice ai.na ti.q ai.nc], undef, undef, .pointer (some ⟨w.heap.size + 1, 4, none⟩), .slice pp len cp, .int .i64 (at_ : Int), .slice (if cp = at_ then pp else Option.map (fun x => x.add (at_ * 6)) pp) (len - at_) (cp - at_), undef]) (bxO [(0, 0, []), (5, (0 + at_), ([] ++ YL.take (at_ * 6))), (10, 1, (ti.cs ai)), (11, (0 + at_ + 1), ([] ++ YL.take (at_ * 6) ++ (ti.cs ai))), (16, (0 + at_ + 1 + (len - at_)), ([] ++ YL.take (at_ * 6) ++ (ti.cs ai) ++ YL.drop (at_ * 6)))]) (fun j => if j = 5 then some 0 else if j = 11 then some 5 else if j = 16 then some 11 else none) (by kernel_rfl) (by kernel_rfl) (by kernel_rfl) (by kernel_rfl) (by kernel_rfl) (fun i u W W' row h1 h2 h3 _ _ => RO.r0 i u W W' row h1 h2 h3) (fun i u W W' row h1 h2 h3 h4 => RO.r1 i u W W' row h1 h2 h3 h4) ?step ?post
                case step =>
                  intro iq hiq a W hrest hb hk
                  have hp1 : a.eval (.tmp 1) = .slice (some ⟨pb, po, none⟩) m pc := (hrest 1 (by intro iq2 hiq2; (repeat' split) <;> omega)).trans rfl
                  have fp1 := ev hp1
                  have hp5 : a.eval (.tmp 5) = .pointer (some ⟨w.heap.size + 1, 0, none⟩) := (hrest 5 (by intro iq2 hiq2; (repeat' split) <;> omega)).trans rfl
                  have fp5 := ev hp5
                  have hp6 : a.eval (.tmp 6) = .int .i64 (i : Int) := (hrest 6 (by intro iq2 hiq2; (repeat' split) <;> omega)).trans rfl
                  have fp6 := ev hp6
                  have hp7 : a.eval (.tmp 7) = .int .i64 (at_ : Int) := (hrest 7 (by intro iq2 hiq2; (repeat' split) <;> omega)).trans rfl
                  have fp7 := ev hp7
                  clear hrest
                  have hBW : Bz2 ≤ W.heap.size := by have := hb.size; omega
                  have cz := cell_kept t4 (hb.block _ (block_lt t4))
                  have en0 := cell_kept (show w3.cell? _ = _ from HT4.out.c0) (hb.block _ (block_lt HT4.out.c0))
                  have en1 := cell_kept (show w3.cell? _ = _ from HT4.out.c1) (hb.block _ (block_lt HT4.out.c1))
                  have en2 := cell_kept (show w3.cell? _ = _ from HT4.out.c2) (hb.block _ (block_lt HT4.out.c2))
                  have en3 := cell_kept (show w3.cell? _ = _ from HT4.out.c3) (hb.block _ (block_lt HT4.out.c3))
                  have en4 := cell_kept (show w3.cell? _ = _ from HT4.out.c4) (hb.block _ (block_lt HT4.out.c4))
                  have en5 := cell_kept (show w3.cell? _ = _ from HT4.out.c5) (hb.block _ (block_lt HT4.out.c5))
                  obtain rfl | rfl | rfl | rfl | rfl | rfl | rfl | rfl | rfl | rfl | rfl | rfl | rfl | rfl | rfl | rfl | rfl : iq = 0 ∨ iq = 1 ∨ iq = 2 ∨ iq = 3 ∨ iq = 4 ∨ iq = 5 ∨ iq = 6 ∨ iq = 7 ∨ iq = 8 ∨ iq = 9 ∨ iq = 10 ∨ iq = 11 ∨ iq = 12 ∨ iq = 13 ∨ iq = 14 ∨ iq = 15 ∨ iq = 16 := by omega
                  · clear hiq
                    clear hk
                    refine ⟨_, rfl, rfl, rfl, wp_value (v := .slice (some ⟨W.heap.size, 0, none⟩) 0 0) (w' := W.alloc (.cells #[] 33)) ?_ ⟨_, none, rfl, World.grownBy_alloc _ _ _, (fun _ h => by cases h), (World.ownsRow_lit W #[] 0 hBW (by decide) rfl : (W.alloc (.cells #[] 33)).ownsRow Bz2 33 6 (.slice (some ⟨W.heap.size, 0, none⟩) 0 0) 0 []), fun _ g hg => ?_⟩⟩
                    · go_simp
                    · have : g = W.heap.size := by simpa [Value.ownBlock] using hg.symm
                      subst this
                      exact ⟨lt_of_row (heap_alloc_new W _), Or.inl (Nat.le_refl _)⟩
                  · clear hiq
                    clear hk
                    refine ⟨_, rfl, rfl, rfl, wp_value (v := .pointer (some ⟨w.heap.size + 1, 4, none⟩)) (w' := W) ?_ ⟨_, none, rfl, World.grownBy.refl _ _, (fun _ h => by cases h), rfl, fun h => nomatch (show false = true from h)⟩⟩
                    go_simp
                  · clear hiq
                    have e1 : a.eval (.tmp 90) = .pointer (some ⟨w.heap.size + 1, 4, none⟩) := hk 1 (mem_of (by kernel_rfl))
                    have f1 := ev e1
                    clear hk
                    refine ⟨_, rfl, rfl, rfl, wp_value (v := .slice pp len cp) (w' := W) ?_ ⟨_, none, rfl, World.grownBy.refl _ _, (fun _ h => by cases h), rfl, fun h => nomatch (show false = true from h)⟩⟩
                    go_simp
                  · clear hiq
                    clear hk
                    refine ⟨_, rfl, rfl, rfl, wp_value (v := .int .i64 (at_ : Int)) (w' := W) ?_ ⟨_, none, rfl, World.grownBy.refl _ _, (fun _ h => by cases h), rfl, fun h => nomatch (show false = true from h)⟩⟩
                    go_simp
                  · clear hiq
                    have e2 : a.eval (.tmp 91) = .slice pp len cp := hk 2 (mem_of (by kernel_rfl))
                    have f2 := ev e2
                    have e3 : a.eval (.tmp 92) = .int .i64 (at_ : Int) := hk 3 (mem_of (by kernel_rfl))
                    have f3 := ev e3
                    clear hk
                    refine ⟨_, rfl, rfl, rfl, wp_value (v := .slice pp at_ cp) (w' := W) ?_ ⟨_, none, rfl, World.grownBy.refl _ _, (fun _ h => by cases h), rfl, fun h => nomatch (show false = true from h)⟩⟩
                    go_simp
                  · clear hiq
                    have e0 : W.ownsRow Bz2 33 6 (a.eval (.tmp 89)) 0 [] := hk 0 (mem_of (by kernel_rfl))
                    have e4 : a.eval (.tmp 93) = .slice pp at_ cp := hk 4 (mem_of (by kernel_rfl))
                    have f4 := ev e4
                    clear hk
                    obtain ⟨v', W', hr, ho, hg, hbk⟩ := app31 e0 hBW ((HYL.out.kept (fun k hk => hb.block k (by omega))).first (by omega : at_ ≤ len)) (by omega)
                    refine ⟨_, rfl, rfl, rfl, wp_app (.tmp 89) (.tmp 93) rfl rfl rfl e4 hr ⟨_, _, rfl, hg, fun g h => ⟨0, rfl, h⟩, ho, fun _ g h => ⟨own_blk ho g h, ?_⟩⟩⟩
                    rcases hbk with hbk | hbk
                    · exact Or.inr ⟨0, rfl, hbk.symm.trans h⟩
                    · exact Or.inl (by rw [hbk] at h; cases h; exact Nat.le_refl _)
                  · clear hiq
                    clear hk
                    refine ⟨_, rfl, rfl, rfl, wp_value (v := .slice (some ⟨pb, po, none⟩) m pc) (w' := W) ?_ ⟨_, none, rfl, World.grownBy.refl _ _, (fun _ h => by cases h), rfl, fun h => nomatch (show false = true from h)⟩⟩
                    go_simp
                  · clear hiq
                    clear hk
                    refine ⟨_, rfl, rfl, rfl, wp_value (v := .int .i64 (i : Int)) (w' := W) ?_ ⟨_, none, rfl, World.grownBy.refl _ _, (fun _ h => by cases h), rfl, fun h => nomatch (show false = true from h)⟩⟩
                    go_simp
                  · clear hiq
                    have e6 : a.eval (.tmp 95) = .slice (some ⟨pb, po, none⟩) m pc := hk 6 (mem_of (by kernel_rfl))
                    have f6 := ev e6
                    have e7 : a.eval (.tmp 96) = .int .i64 (i : Int) := hk 7 (mem_of (by kernel_rfl))
                    have f7 := ev e7
                    clear hk
                    refine ⟨_, rfl, rfl, rfl, wp_value (v := .pointer (some ⟨pb, po + i * 6, none⟩)) (w' := W) ?_ ⟨_, none, rfl, World.grownBy.refl _ _, (fun _ h => by cases h), rfl, fun h => nomatch (show false = true from h)⟩⟩
                    go_simp
                  · clear hiq
                    have e8 : a.eval (.tmp 97) = .pointer (some ⟨pb, po + i * 6, none⟩) := hk 8 (mem_of (by kernel_rfl))
                    have f8 := ev e8
                    clear hk
                    refine ⟨_, rfl, rfl, rfl, wp_value (v := .agg #[.int .i64 ti.k, .bool ti.b, .int .i64 ti.n, .string ti.s, .slice ai.pa ti.m ai.pc, .slice ai.na ti.q ai.nc]) (w' := W) ?_ ⟨_, none, rfl, World.grownBy.refl _ _, (fun _ h => by cases h), rfl, fun h => nomatch (show false = true from h)⟩⟩
                    go_simp
                  · clear hiq
                    have e9 : a.eval (.tmp 98) = .agg #[.int .i64 ti.k, .bool ti.b, .int .i64 ti.n, .string ti.s, .slice ai.pa ti.m ai.pc, .slice ai.na ti.q ai.nc] := hk 9 (mem_of (by kernel_rfl))
                    have f9 := ev e9
                    clear hk
                    refine ⟨_, rfl, rfl, rfl, wp_value (v := .slice (some ⟨W.heap.size, 0, none⟩) 1 1) (w' := W.alloc (.cells #[.int .i64 ti.k, .bool ti.b, .int .i64 ti.n, .string ti.s, .slice ai.pa ti.m ai.pc, .slice ai.na ti.q ai.nc] 33)) ?_ ⟨_, none, rfl, World.grownBy_alloc _ _ _, (fun _ h => by cases h), (World.ownsRow_lit W #[.int .i64 ti.k, .bool ti.b, .int .i64 ti.n, .string ti.s, .slice ai.pa ti.m ai.pc, .slice ai.na ti.q ai.nc] 1 hBW (by decide) rfl : (W.alloc (.cells #[.int .i64 ti.k, .bool ti.b, .int .i64 ti.n, .string ti.s, .slice ai.pa ti.m ai.pc, .slice ai.na ti.q ai.nc] 33)).ownsRow Bz2 33 6 (.slice (some ⟨W.heap.size, 0, none⟩) 1 1) 1 (ti.cs ai)), fun _ g hg => ?_⟩⟩
                    · go_simp
                    · have : g = W.heap.size := by simpa [Value.ownBlock] using hg.symm
                      subst this
                      exact ⟨lt_of_row (heap_alloc_new W _), Or.inl (Nat.le_refl _)⟩
                  · clear hiq
                    have e5 : W.ownsRow Bz2 33 6 (a.eval (.tmp 94)) (0 + at_) ([] ++ YL.take (at_ * 6)) := hk 5 (mem_of (by kernel_rfl))
                    have e10 : W.ownsRow Bz2 33 6 (a.eval (.tmp 99)) 1 (ti.cs ai) := hk 10 (mem_of (by kernel_rfl))
                    clear hk
                    obtain ⟨q8, d8, hq8, s8⟩ := SlT.of_own (S := fun _ => True) e10 (by intro u hu; exact cs_one' _ _ u hu) (fun _ _ => trivial)
                    obtain ⟨v', W', hr, ho, hg, hbk⟩ := app31 e5 hBW s8 (by omega)
                    refine ⟨_, rfl, rfl, rfl, wp_app (.tmp 94) (.tmp 99) rfl rfl rfl hq8 hr ⟨_, _, rfl, hg, fun g h => ⟨5, rfl, h⟩, ho, fun _ g h => ⟨own_blk ho g h, ?_⟩⟩⟩
                    rcases hbk with hbk | hbk
                    · exact Or.inr ⟨5, rfl, hbk.symm.trans h⟩
                    · exact Or.inl (by rw [hbk] at h; cases h; exact Nat.le_refl _)
                  · clear hiq
                    clear hk
                    refine ⟨_, rfl, rfl, rfl, wp_value (v := .pointer (some ⟨w.heap.size + 1, 4, none⟩)) (w' := W) ?_ ⟨_, none, rfl, World.grownBy.refl _ _, (fun _ h => by cases h), rfl, fun h => nomatch (show false = true from h)⟩⟩
                    go_simp
                  · clear hiq
                    have e12 : a.eval (.tmp 101) = .pointer (some ⟨w.heap.size + 1, 4, none⟩) := hk 12 (mem_of (by kernel_rfl))
                    have f12 := ev e12
                    clear hk
                    refine ⟨_, rfl, rfl, rfl, wp_value (v := .slice pp len cp) (w' := W) ?_ ⟨_, none, rfl, World.grownBy.refl _ _, (fun _ h => by cases h), rfl, fun h => nomatch (show false = true from h)⟩⟩
                    go_simp
                  · clear hiq
                    clear hk
                    refine ⟨_, rfl, rfl, rfl, wp_value (v := .int .i64 (at_ : Int)) (w' := W) ?_ ⟨_, none, rfl, World.grownBy.refl _ _, (fun _ h => by cases h), rfl, fun h => nomatch (show false = true from h)⟩⟩
                    go_simp
                  · clear hiq
                    have e13 : a.eval (.tmp 102) = .slice pp len cp := hk 13 (mem_of (by kernel_rfl))
                    have f13 := ev e13
                    have e14 : a.eval (.tmp 103) = .int .i64 (at_ : Int) := hk 14 (mem_of (by kernel_rfl))
                    have f14 := ev e14
                    clear hk
                    refine ⟨_, rfl, rfl, rfl, wp_value (v := .slice (if cp = at_ then pp else Option.map (fun x => x.add (at_ * 6)) pp) (len - at_) (cp - at_)) (w' := W) ?_ ⟨_, none, rfl, World.grownBy.refl _ _, (fun _ h => by cases h), rfl, fun h => nomatch (show false = true from h)⟩⟩
                    go_simp
                  · clear hiq
                    have e11 : W.ownsRow Bz2 33 6 (a.eval (.tmp 100)) (0 + at_ + 1) ([] ++ YL.take (at_ * 6) ++ (ti.cs ai)) := hk 11 (mem_of (by kernel_rfl))
                    have e15 : a.eval (.tmp 104) = .slice (if cp = at_ then pp else Option.map (fun x => x.add (at_ * 6)) pp) (len - at_) (cp - at_) := hk 15 (mem_of (by kernel_rfl))
                    have f15 := ev e15
                    clear hk
                    obtain ⟨v', W', hr, ho, hg, hbk⟩ := app31 e11 hBW ((HYL.out.kept (fun k hk => hb.block k (by omega))).last (by omega : at_ ≤ len)) (by omega)
                    refine ⟨_, rfl, rfl, rfl, wp_app (.tmp 100) (.tmp 104) rfl rfl rfl e15 hr ⟨_, _, rfl, hg, fun g h => ⟨11, rfl, h⟩, ho, fun _ g h => ⟨own_blk ho g h, ?_⟩⟩⟩
                    rcases hbk with hbk | hbk
                    · exact Or.inr ⟨11, rfl, hbk.symm.trans h⟩
                    · exact Or.inl (by rw [hbk] at h; cases h; exact Nat.le_refl _)
                case post =>
                  intro V W3 hb hV
                  have h16 : W3.ownsRow Bz2 33 6 (V 16) (0 + at_ + 1 + (len - at_)) ([] ++ YL.take (at_ * 6) ++ (ti.cs ai) ++ YL.drop (at_ * 6)) := hV 16 (by decide) (by decide)
                  have hbz : Below w3.heap.size w3 W3 := hb
                  have hgl : ∀ k, (V 16).ownBlock = some k → w3.heap.size ≤ k ∧ k < W3.heap.size := fun k hk => by have := h16.lt k hk; omega
                  clear hV hb
                  obtain ⟨q2, d2, hq2, hS2⟩ := SlT.of_own (S := fun k => w3.heap.size ≤ k ∧ k < W3.heap.size) h16 (by intro u hu; simp only [List.nil_append, List.mem_append] at hu; rcases hu with (hu | hu) | hu; exact HYL.out.one u (List.mem_of_mem_take hu); exact cs_one' _ _ u hu; exact HYL.out.one u (List.mem_of_mem_drop hu)) hgl
                  clear h16 hgl
                  have x1 := (hbz.block _ (lt_of_row g1)).trans g1
                  have xz4 := frozen_of_row W3 _ 4 _ _ x1
                  have xz4c := cell_of_row W3 _ 4 _ _ _ x1
                  rw [HL1.out] at hq2 hS2
                  have HS2 : Hid (SlT (fun k => w3.heap.size ≤ k ∧ k < W3.heap.size) W3 6 q2 len1 d2 ([] ++ YL.take (at_ * 6) ++ ti.cs ai ++ YL.drop (at_ * 6))) := hS2
                  clear hS2
                  simp only [putAll, hq2]
                  clear hq2
                  go_wp2_with fail
                  have hzs3 := hbz.size
                  have hbf : Below w.heap.size w (W3.setCell ⟨w.heap.size + 1, 4, none⟩ (.slice q2 len1 d2)) := (hb3.trans (hbz.mono (by omega))).setCell (p := ⟨w.heap.size + 1, 4, none⟩) (by show w.heap.size ≤ w.heap.size + 1; omega) _
                  have hkf : ∀ k, k ≠ w.heap.size + 1 → (W3.setCell ⟨w.heap.size + 1, 4, none⟩ (.slice q2 len1 d2)).heap[k]? = W3.heap[k]? := fun k hk => Below.heap_setCell _ _ _ k hk
                  have hszf : (W3.setCell ⟨w.heap.size + 1, 4, none⟩ (.slice q2 len1 d2)).heap.size = W3.heap.size := by simp
                  have f1 := row_setCell (k := 4) x1 (.slice q2 len1 d2)
                  have f0 := (hkf w.heap.size (by omega)).trans ((hbz.block _ (by omega)).trans g0)
                  have fN := (HS3.out.kept (w' := W3.setCell ⟨w.heap.size + 1, 4, none⟩ (.slice q2 len1 d2)) (fun k hk => (hkf k (by omega)).trans (hbz.block k hk.2))).up (S' := fun k => w.heap.size + 2 ≤ k ∧ k < (W3.setCell ⟨w.heap.size + 1, 4, none⟩ (.slice q2 len1 d2)).heap.size) (fun k hk => ⟨by omega, by omega⟩)
                  have fP := (HS2.out.kept (w' := W3.setCell ⟨w.heap.size + 1, 4, none⟩ (.slice q2 len1 d2)) (fun k hk => hkf k (by omega))).up (S' := fun k => w.heap.size + 2 ≤ k ∧ k < (W3.setCell ⟨w.heap.size + 1, 4, none⟩ (.slice q2 len1 d2)).heap.size) (fun k hk => ⟨by omega, by omega⟩)
                  have hDe := HD.out
                  have fN' : SlT (fun k => w.heap.size + 2 ≤ k ∧ k < (W3.setCell ⟨w.heap.size + 1, 4, none⟩ (.slice q2 len1 d2)).heap.size) (W3.setCell ⟨w.heap.size + 1, 4, none⟩ (.slice q2 len1 d2)) 1 q1 len1 d1 ((docP g (i + 1)).flatMap (cN g)) := by rw [hDe, ins_cells (cN_len g), HXE.out, show cN g i = [.string gi] by unfold cN; rw [HGI.out]]; exact fN
                  have fP' : SlT (fun k => w.heap.size + 2 ≤ k ∧ k < (W3.setCell ⟨w.heap.size + 1, 4, none⟩ (.slice q2 len1 d2)).heap.size) (W3.setCell ⟨w.heap.size + 1, 4, none⟩ (.slice q2 len1 d2)) 6 q2 len1 d2 ((docP g (i + 1)).flatMap (cP f A)) := by rw [hDe, ins_cells (cP_len f A), HYE.out, show cP f A i = ti.cs ai by unfold cP; rw [HTI.out.1, HTI.out.2]]; exact fP
                  have hll : (docP g (i + 1)).length = len1 := by rw [hDe, List.length_append, List.length_cons, List.length_take, List.length_drop, HLN.out, ← HL1.out]; omega
                  clear fN fP hDe HS3 HS2
                  go_wp2_with fail
                  go_roundw
                  case rel => exact ⟨i + 1, len1, d2, d1, q2, q1, by omega, by go_num, hll, f1, f0, fN', fP', hbf, by omega⟩
                  case measure => simp [intOf]; omega
        · have hal' : ¬ (at_ : Int) < (len : Int) := by omega
          go_wp2_with fail
          go_quiet (fail)
          go_wp2_with fail
          rename Nat => n1
          have HLEN := HLN.out
          have HD : Hid (docP g (i + 1) = (docP g i).take at_ ++ i :: (docP g i).drop at_) := by
            have h0 := docI_at g i (docP g i) at_ (by omega) (fun j hj => by rw [HGI.out]; exact HLO.out j hj) (fun h => by omega)
            rw [if_neg (fun h => by omega)] at h0
            exact h0
          clear HLEN
          go_quiet (fail)
          rename Nat => n2
          obtain ⟨w1, hw1⟩ : ∃ w1, (wr.drewN n1).drewN n2 = w1 := ⟨_, rfl⟩
          have hb1 : Below wo.heap.size wo w1 := by rw [← hw1]; exact below_dN (below_dN hbx _) _
          have hs1a : w1.heap.size ≤ wo.heap.size := by rw [← hw1]; exact Nat.le_of_eq hsx
          have hs1b : wo.heap.size ≤ w1.heap.size := by rw [← hw1]; exact Nat.le_of_eq hsx.symm
          rw [hw1]
          clear hw1 hbx hsx xrow x5 xni
          go_wp2_with fail
          obtain ⟨Bz, hBz⟩ : ∃ Bz, w1.heap.size = Bz := ⟨_, rfl⟩
          have HBz : Hid (w1.heap.size = Bz) := hBz
          have y1 := (hb1.block _ hlr).trans hrow
          have yr0 := (hb1.block _ (by omega)).trans hr0
          have hbw1 : Below w.heap.size w w1 := hbw.trans (hb1.mono (by omega))
          have y4 : w1.cell? ⟨w.heap.size + 1, 4, none⟩ = some (.slice pp len cp) := cell_of_row w1 _ 4 _ _ _ y1
          have y5 : w1.cell? ⟨w.heap.size + 1, 5, none⟩ = some (.slice pn len cn) := cell_of_row w1 _ 5 _ _ _ y1
          have yni := cell_later eni (show nb < wo.heap.size by omega) hb1
          obtain ⟨ti, hti⟩ : ∃ ti, f i = ti := ⟨_, rfl⟩
          obtain ⟨ai, hai⟩ : ∃ ai, A i = ai := ⟨_, rfl⟩
          have y6 := h6.later (show pb < wo.heap.size by omega) hb1
          rw [hti, hai] at y6
          have HTI : Hid (f i = ti ∧ A i = ai) := ⟨hti, hai⟩
          clear hti hai
          have hac : (at_ : Int) ≤ (cn : Int) := by omega
          have hap : (at_ : Int) ≤ (cp : Int) := by omega
          have hal2 : (at_ : Int) ≤ (len : Int) := by omega
          obtain ⟨XL, hXL⟩ : ∃ XL, (docP g i).flatMap (cN g) = XL := ⟨_, rfl⟩
          have HXL : Hid (SlT (fun k => w.heap.size + 2 ≤ k ∧ k < wo.heap.size) w1 1 pn len cn XL) := by rw [← hXL]; exact HSN.out.kept (fun k hk => hb1.block k hk.2)
          have HXE : Hid ((docP g i).flatMap (cN g) = XL) := hXL
          clear hXL
          refine any_tail3 (by kernel_rfl) 17 (by exact Nat.le_of_ble_eq_true rfl) (fun i => i + 71) (RO 9 1 Bz [(0, 0, []), (5, (0 + at_), ([] ++ XL.take (at_ * 1))), (10, 1, [.string gi]), (11, (0 + at_ + 1), ([] ++ XL.take (at_ * 1) ++ [.string gi])), (16, (0 + at_ + 1 + (len - at_)), ([] ++ XL.take (at_ * 1) ++ [.string gi] ++ XL.drop (at_ * 1)))] [undef, .pointer (some ⟨w.heap.size + 1, 5, none⟩), .slice pn len cn, .int .i64 (at_ : Int), .slice pn at_ cn, undef, .slice (some ⟨nb, no, none⟩) q nc, .int .i64 (i : Int), .pointer (some ⟨nb, no + i, none⟩), .string gi, undef, undef, .pointer (some ⟨w.heap.size + 1, 5, none⟩), .slice pn len cn, .int .i64 (at_ : Int), .slice (if cn = at_ then pn else Option.map (fun x => x.add (at_ * 1)) pn) (len - at_) (cn - at_), undef]) (bxO [(0, 0, []), (5, (0 + at_), ([] ++ XL.take (at_ * 1))), (10, 1, [.string gi]), (11, (0 + at_ + 1), ([] ++ XL.take (at_ * 1) ++ [.string gi])), (16, (0 + at_ + 1 + (len - at_)), ([] ++ XL.take (at_ * 1) ++ [.string gi] ++ XL.drop (at_ * 1)))]) (fun j => if j = 5 then some 0 else if j = 11 then some 5 else if j = 16 then some 11 else none) (by kernel_rfl) (by kernel_rfl) (by kernel_rfl) (by kernel_rfl) (by kernel_rfl) (fun i u W W' row h1 h2 h3 _ _ => RO.r0 i u W W' row h1 h2 h3) (fun i u W W' row h1 h2 h3 h4 => RO.r1 i u W W' row h1 h2 h3 h4) ?step ?post
          case step =>
            intro iq hiq a W hrest hb hk
            have hp0 : a.eval (.tmp 0) = .slice (some ⟨nb, no, none⟩) q nc := (hrest 0 (by intro iq2 hiq2; (repeat' split) <;> omega)).trans rfl
            have fp0 := ev hp0
            have hp5 : a.eval (.tmp 5) = .pointer (some ⟨w.heap.size + 1, 0, none⟩) := (hrest 5 (by intro iq2 hiq2; (repeat' split) <;> omega)).trans rfl
            have fp5 := ev hp5
            have hp6 : a.eval (.tmp 6) = .int .i64 (i : Int) := (hrest 6 (by intro iq2 hiq2; (repeat' split) <;> omega)).trans rfl
            have fp6 := ev hp6
            have hp7 : a.eval (.tmp 7) = .int .i64 (at_ : Int) := (hrest 7 (by intro iq2 hiq2; (repeat' split) <;> omega)).trans rfl
            have fp7 := ev hp7
            clear hrest
            have hBW : Bz ≤ W.heap.size := by have := hb.size; omega
            have cz := cell_kept y5 (hb.block _ (block_lt y5))
            have en := cell_kept yni (hb.block _ (block_lt yni))
            obtain rfl | rfl | rfl | rfl | rfl | rfl | rfl | rfl | rfl | rfl | rfl | rfl | rfl | rfl | rfl | rfl | rfl : iq = 0 ∨ iq = 1 ∨ iq = 2 ∨ iq = 3 ∨ iq = 4 ∨ iq = 5 ∨ iq = 6 ∨ iq = 7 ∨ iq = 8 ∨ iq = 9 ∨ iq = 10 ∨ iq = 11 ∨ iq = 12 ∨ iq = 13 ∨ iq = 14 ∨ iq = 15 ∨ iq = 16 := by omega
            · clear hiq
              clear hk
              refine ⟨_, rfl, rfl, rfl, wp_value (v := .slice (some ⟨W.heap.size, 0, none⟩) 0 0) (w' := W.alloc (.cells #[] 9)) ?_ ⟨_, none, rfl, World.grownBy_alloc _ _ _, (fun _ h => by cases h), (World.ownsRow_lit W #[] 0 hBW (by decide) rfl : (W.alloc (.cells #[] 9)).ownsRow Bz 9 1 (.slice (some ⟨W.heap.size, 0, none⟩) 0 0) 0 []), fun _ g hg => ?_⟩⟩
              · go_simp
              · have : g = W.heap.size := by simpa [Value.ownBlock] using hg.symm
                subst this
                exact ⟨lt_of_row (heap_alloc_new W _), Or.inl (Nat.le_refl _)⟩
            · clear hiq
              clear hk
              refine ⟨_, rfl, rfl, rfl, wp_value (v := .pointer (some ⟨w.heap.size + 1, 5, none⟩)) (w' := W) ?_ ⟨_, none, rfl, World.grownBy.refl _ _, (fun _ h => by cases h), rfl, fun h => nomatch (show false = true from h)⟩⟩
              go_simp
            · clear hiq
              have e1 : a.eval (.tmp 72) = .pointer (some ⟨w.heap.size + 1, 5, none⟩) := hk 1 (mem_of (by kernel_rfl))
              have f1 := ev e1
              clear hk
              refine ⟨_, rfl, rfl, rfl, wp_value (v := .slice pn len cn) (w' := W) ?_ ⟨_, none, rfl, World.grownBy.refl _ _, (fun _ h => by cases h), rfl, fun h => nomatch (show false = true from h)⟩⟩
              go_simp
            · clear hiq
              clear hk
              refine ⟨_, rfl, rfl, rfl, wp_value (v := .int .i64 (at_ : Int)) (w' := W) ?_ ⟨_, none, rfl, World.grownBy.refl _ _, (fun _ h => by cases h), rfl, fun h => nomatch (show false = true from h)⟩⟩
              go_simp
            · clear hiq
              have e2 : a.eval (.tmp 73) = .slice pn len cn := hk 2 (mem_of (by kernel_rfl))
              have f2 := ev e2
              have e3 : a.eval (.tmp 74) = .int .i64 (at_ : Int) := hk 3 (mem_of (by kernel_rfl))
              have f3 := ev e3
              clear hk
              refine ⟨_, rfl, rfl, rfl, wp_value (v := .slice pn at_ cn) (w' := W) ?_ ⟨_, none, rfl, World.grownBy.refl _ _, (fun _ h => by cases h), rfl, fun h => nomatch (show false = true from h)⟩⟩
              go_simp
            · clear hiq
              have e0 : W.ownsRow Bz 9 1 (a.eval (.tmp 71)) 0 [] := hk 0 (mem_of (by kernel_rfl))
              have e4 : a.eval (.tmp 75) = .slice pn at_ cn := hk 4 (mem_of (by kernel_rfl))
              have f4 := ev e4
              clear hk
              obtain ⟨v', W', hr, ho, hg, hbk⟩ := app23 e0 hBW ((HXL.out.kept (fun k hk => hb.block k (by omega))).first (by omega : at_ ≤ len)) (by omega)
              refine ⟨_, rfl, rfl, rfl, wp_app (.tmp 71) (.tmp 75) rfl rfl rfl e4 hr ⟨_, _, rfl, hg, fun g h => ⟨0, rfl, h⟩, ho, fun _ g h => ⟨own_blk ho g h, ?_⟩⟩⟩
              rcases hbk with hbk | hbk
              · exact Or.inr ⟨0, rfl, hbk.symm.trans h⟩
              · exact Or.inl (by rw [hbk] at h; cases h; exact Nat.le_refl _)
            · clear hiq
              clear hk
              refine ⟨_, rfl, rfl, rfl, wp_value (v := .slice (some ⟨nb, no, none⟩) q nc) (w' := W) ?_ ⟨_, none, rfl, World.grownBy.refl _ _, (fun _ h => by cases h), rfl, fun h => nomatch (show false = true from h)⟩⟩
              go_simp
            · clear hiq
              clear hk
              refine ⟨_, rfl, rfl, rfl, wp_value (v := .int .i64 (i : Int)) (w' := W) ?_ ⟨_, none, rfl, World.grownBy.refl _ _, (fun _ h => by cases h), rfl, fun h => nomatch (show false = true from h)⟩⟩
              go_simp
            · clear hiq
              have e6 : a.eval (.tmp 77) = .slice (some ⟨nb, no, none⟩) q nc := hk 6 (mem_of (by kernel_rfl))
              have f6 := ev e6
              have e7 : a.eval (.tmp 78) = .int .i64 (i : Int) := hk 7 (mem_of (by kernel_rfl))
              have f7 := ev e7
              clear hk
              refine ⟨_, rfl, rfl, rfl, wp_value (v := .pointer (some ⟨nb, no + i, none⟩)) (w' := W) ?_ ⟨_, none, rfl, World.grownBy.refl _ _, (fun _ h => by cases h), rfl, fun h => nomatch (show false = true from h)⟩⟩
              go_simp
            · clear hiq
              have e8 : a.eval (.tmp 79) = .pointer (some ⟨nb, no + i, none⟩) := hk 8 (mem_of (by kernel_rfl))
              have f8 := ev e8
              clear hk
              refine ⟨_, rfl, rfl, rfl, wp_value (v := .string gi) (w' := W) ?_ ⟨_, none, rfl, World.grownBy.refl _ _, (fun _ h => by cases h), rfl, fun h => nomatch (show false = true from h)⟩⟩
              go_simp
            · clear hiq
              have e9 : a.eval (.tmp 80) = .string gi := hk 9 (mem_of (by kernel_rfl))
              have f9 := ev e9
              clear hk
              refine ⟨_, rfl, rfl, rfl, wp_value (v := .slice (some ⟨W.heap.size, 0, none⟩) 1 1) (w' := W.alloc (.cells #[.string gi] 9)) ?_ ⟨_, none, rfl, World.grownBy_alloc _ _ _, (fun _ h => by cases h), (World.ownsRow_lit W #[.string gi] 1 hBW (by decide) rfl : (W.alloc (.cells #[.string gi] 9)).ownsRow Bz 9 1 (.slice (some ⟨W.heap.size, 0, none⟩) 1 1) 1 [.string gi]), fun _ g hg => ?_⟩⟩
              · go_simp
              · have : g = W.heap.size := by simpa [Value.ownBlock] using hg.symm
                subst this
                exact ⟨lt_of_row (heap_alloc_new W _), Or.inl (Nat.le_refl _)⟩
            · clear hiq
              have e5 : W.ownsRow Bz 9 1 (a.eval (.tmp 76)) (0 + at_) ([] ++ XL.take (at_ * 1)) := hk 5 (mem_of (by kernel_rfl))
              have e10 : W.ownsRow Bz 9 1 (a.eval (.tmp 81)) 1 [.string gi] := hk 10 (mem_of (by kernel_rfl))
              clear hk
              obtain ⟨q8, d8, hq8, s8⟩ := SlT.of_own (S := fun _ => True) e10 (by intro u hu; simp only [List.mem_cons, List.not_mem_nil, or_false] at hu; rcases hu with rfl; rfl) (fun _ _ => trivial)
              obtain ⟨v', W', hr, ho, hg, hbk⟩ := app23 e5 hBW s8 (by omega)
              refine ⟨_, rfl, rfl, rfl, wp_app (.tmp 76) (.tmp 81) rfl rfl rfl hq8 hr ⟨_, _, rfl, hg, fun g h => ⟨5, rfl, h⟩, ho, fun _ g h => ⟨own_blk ho g h, ?_⟩⟩⟩
              rcases hbk with hbk | hbk
              · exact Or.inr ⟨5, rfl, hbk.symm.trans h⟩
              · exact Or.inl (by rw [hbk] at h; cases h; exact Nat.le_refl _)
            · clear hiq
              clear hk
              refine ⟨_, rfl, rfl, rfl, wp_value (v := .pointer (some ⟨w.heap.size + 1, 5, none⟩)) (w' := W) ?_ ⟨_, none, rfl, World.grownBy.refl _ _, (fun _ h => by cases h), rfl, fun h => nomatch (show false = true from h)⟩⟩
              go_simp
            · clear hiq
              have e12 : a.eval (.tmp 83) = .pointer (some ⟨w.heap.size + 1, 5, none⟩) := hk 12 (mem_of (by kernel_rfl))
              have f12 := ev e12
              clear hk
              refine ⟨_, rfl, rfl, rfl, wp_value (v := .slice pn len cn) (w' := W) ?_ ⟨_, none, rfl, World.grownBy.refl _ _, (fun _ h => by cases h), rfl, fun h => nomatch (show false = true from h)⟩⟩
              go_simp
            · clear hiq
              clear hk
              refine ⟨_, rfl, rfl, rfl, wp_value (v := .int .i64 (at_ : Int)) (w' := W) ?_ ⟨_, none, rfl, World.grownBy.refl _ _, (fun _ h => by cases h), rfl, fun h => nomatch (show false = true from h)⟩⟩
              go_simp
            · clear hiq
              have e13 : a.eval (.tmp 84) = .slice pn len cn := hk 13 (mem_of (by kernel_rfl))
              have f13 := ev e13
              have e14 : a.eval (.tmp 85) = .int .i64 (at_ : Int) := hk 14 (mem_of (by kernel_rfl))
              have f14 := ev e14
              clear hk
              refine ⟨_, rfl, rfl, rfl, wp_value (v := .slice (if cn = at_ then pn else Option.map (fun x => x.add (at_ * 1)) pn) (len - at_) (cn - at_)) (w' := W) ?_ ⟨_, none, rfl, World.grownBy.refl _ _, (fun _ h => by cases h), rfl, fun h => nomatch (show false = true from h)⟩⟩
              go_simp
            · clear hiq
              have e11 : W.ownsRow Bz 9 1 (a.eval (.tmp 82)) (0 + at_ + 1) ([] ++ XL.take (at_ * 1) ++ [.string gi]) := hk 11 (mem_of (by kernel_rfl))
              have e15 : a.eval (.tmp 86) = .slice (if cn = at_ then pn else Option.map (fun x => x.add (at_ * 1)) pn) (len - at_) (cn - at_) := hk 15 (mem_of (by kernel_rfl))
              have f15 := ev e15
              clear hk
              obtain ⟨v', W', hr, ho, hg, hbk⟩ := app23 e11 hBW ((HXL.out.kept (fun k hk => hb.block k (by omega))).last (by omega : at_ ≤ len)) (by omega)
              refine ⟨_, rfl, rfl, rfl, wp_app (.tmp 82) (.tmp 86) rfl rfl rfl e15 hr ⟨_, _, rfl, hg, fun g h => ⟨11, rfl, h⟩, ho, fun _ g h => ⟨own_blk ho g h, ?_⟩⟩⟩
              rcases hbk with hbk | hbk
              · exact Or.inr ⟨11, rfl, hbk.symm.trans h⟩
              · exact Or.inl (by rw [hbk] at h; cases h; exact Nat.le_refl _)
          case post =>
            intro V W hb hV
            have h16 : W.ownsRow Bz 9 1 (V 16) (0 + at_ + 1 + (len - at_)) ([] ++ XL.take (at_ * 1) ++ [.string gi] ++ XL.drop (at_ * 1)) := hV 16 (by decide) (by decide)
            have hbz : Below w1.heap.size w1 W := hb
            have hgl : ∀ k, (V 16).ownBlock = some k → w1.heap.size ≤ k ∧ k < W.heap.size := fun k hk => by have := h16.lt k hk; omega
            clear hV hb
            obtain ⟨q1, d1, hq1, hS1⟩ := SlT.of_own (S := fun k => w1.heap.size ≤ k ∧ k < W.heap.size) h16 (by intro u hu; simp only [List.nil_append, List.mem_append, List.mem_cons, List.not_mem_nil, or_false] at hu; rcases hu with (hu | rfl) | hu; exact HXL.out.one u (List.mem_of_mem_take hu); rfl; exact HXL.out.one u (List.mem_of_mem_drop hu)) hgl
            clear h16 hgl
            have x1 := (hbz.block _ (lt_of_row y1)).trans y1
            have xz5 := frozen_of_row W _ 5 _ _ x1
            have xz5c := cell_of_row W _ 5 _ _ _ x1
            obtain ⟨len1, hlen1⟩ : ∃ len1, 0 + at_ + 1 + (len - at_) = len1 := ⟨_, rfl⟩
            have HL1 : Hid (0 + at_ + 1 + (len - at_) = len1) := hlen1
            rw [hlen1] at hq1 hS1
            have HS1 : Hid (SlT (fun k => w1.heap.size ≤ k ∧ k < W.heap.size) W 1 q1 len1 d1 ([] ++ XL.take (at_ * 1) ++ [.string gi] ++ XL.drop (at_ * 1))) := hS1
            clear hlen1 hS1
            simp only [putAll, hq1]
            clear hq1
            go_wp2_with fail
            obtain ⟨w3, hw3⟩ : ∃ w3, W.setCell ⟨w.heap.size + 1, 5, none⟩ (.slice q1 len1 d1) = w3 := ⟨_, rfl⟩
            have g1 : w3.heap[w.heap.size + 1]? = some (.cells #[.int .i64 6, .bool false, .int .i64 0, .string ⟨#[]⟩, .slice pp len cp, .slice q1 len1 d1] 33 (0, 0)) := by rw [← hw3]; exact row_setCell (k := 5) x1 _
            have hk3 : ∀ k, k ≠ w.heap.size + 1 → w3.heap[k]? = W.heap[k]? := fun k hk => by rw [← hw3]; exact Below.heap_setCell _ _ _ k hk
            have hsz3 : w3.heap.size = W.heap.size := by rw [← hw3]; simp
            have hb3 : Below w.heap.size w w3 := by rw [← hw3]; exact (hbw1.trans (hbz.mono (by omega))).setCell (p := ⟨w.heap.size + 1, 5, none⟩) (by show w.heap.size ≤ w.heap.size + 1; omega) _
            rw [hw3]
            clear hw3
            have hzs := hbz.size
            have k13 : ∀ k, k < w1.heap.size → k ≠ w.heap.size + 1 → w3.heap[k]? = w1.heap[k]? := fun k h1 h2 => (hk3 k h2).trans (hbz.block k h1)
            have g0 := (k13 w.heap.size (by omega) (by omega)).trans yr0
            have HS3 : Hid (SlT (fun k => w1.heap.size ≤ k ∧ k < w3.heap.size) w3 1 q1 len1 d1 ([] ++ XL.take (at_ * 1) ++ [.string gi] ++ XL.drop (at_ * 1))) := by rw [hsz3]; exact HS1.out.kept (fun k hk => hk3 k (by omega))
            have t6 := y6.kept (k13 pb (by omega) (by omega))
            have t4 := cell_of_row w3 _ 4 _ _ _ g1
            have HT4 : Hid (At6 w3 pb (po + i * 6) ti ai) := t6
            obtain ⟨YL, hYL⟩ : ∃ YL, (docP g i).flatMap (cP f A) = YL := ⟨_, rfl⟩
            have HYL : Hid (SlT (fun k => w.heap.size + 2 ≤ k ∧ k < wo.heap.size) w3 6 pp len cp YL) := by rw [← hYL]; exact HSP.out.kept (fun k hk => (k13 k (by omega) (by omega)).trans (hb1.block k hk.2))
            have HYE : Hid ((docP g i).flatMap (cP f A) = YL) := hYL
            have hs13 : wo.heap.size ≤ w3.heap.size := by omega
            clear hYL HXL HS1 x1 xz5 xz5c hk3 k13 y4 y5 y1 yni yr0 hbz hbw1 t6
            obtain ⟨Bz2, hBz2⟩ : ∃ Bz2, w3.heap.size = Bz2 := ⟨_, rfl⟩
            refine any_tail3 (by kernel_rfl) 17 (by exact Nat.le_of_ble_eq_true rfl) (fun i => i + 89) (RO 33 6 Bz2 [(0, 0, []), (5, (0 + at_), ([] ++ YL.take (at_ * 6))), (10, 1, (ti.cs ai)), (11, (0 + at_ + 1), ([] ++ YL.take (at_ * 6) ++ (ti.cs ai))), (16, (0 + at_ + 1 + (len - at_)), ([] ++ YL.take (at_ * 6) ++ (ti.cs ai) ++ YL.drop (at_ * 6)))] [undef, .pointer (some ⟨w.heap.size + 1, 4, none⟩), .slice pp len cp, .int .i64 (at_ : Int), .slice pp at_ cp, undef, .slice (some ⟨pb, po, none⟩) m pc, .int .i64 (i : Int), .pointer (some ⟨pb, po + i * 6, none⟩), .agg #[.int .i64 ti.k, .bool ti.b, .int .i64 ti.n, .string ti.s, .slice ai.pa ti.m ai.pc, .slice ai.na ti.q ai.nc], undef, undef, .pointer (some ⟨w.heap.size + 1, 4, none⟩), .slice pp len cp, .int .i64 (at_ : Int), .slice (if cp = at_ then pp else Option.map (fun x => x.add (at_ * 6)) pp) (len - at_) (cp - at_), undef]) (bxO [(0, 0, []), (5, (0 + at_), ([] ++ YL.take (at_ * 6))), (10, 1, (ti.cs ai)), (11, (0 + at_ + 1), ([] ++ YL.take (at_ * 6) ++ (ti.cs ai))), (16, (0 + at_ + 1 + (len - at_)), ([] ++ YL.take (at_ * 6) ++ (ti.cs ai) ++ YL.drop (at_ * 6)))]) (fun j => if j = 5 then some 0 else if j = 11 then some 5 else if j = 16 then some 11 else none) (by kernel_rfl) (by kernel_rfl) (by kernel_rfl) (by kernel_rfl) (by kernel_rfl) (fun i u W W' row h1 h2 h3 _ _ => RO.r0 i u W W' row h1 h2 h3) (fun i u W W' row h1 h2 h3 h4 => RO.r1 i u W W' row h1 h2 h3 h4) ?step ?post
            case step =>
              intro iq hiq a W hrest hb hk
              have hp1 : a.eval (.tmp 1) = .slice (some ⟨pb, po, none⟩) m pc := (hrest 1 (by intro iq2 hiq2; (repeat' split) <;> omega)).trans rfl
              have fp1 := ev hp1
              have hp5 : a.eval (.tmp 5) = .pointer (some ⟨w.heap.size + 1, 0, none⟩) := (hrest 5 (by intro iq2 hiq2; (repeat' split) <;> omega)).trans rfl
              have fp5 := ev hp5
              have hp6 : a.eval (.tmp 6) = .int .i64 (i : Int) := (hrest 6 (by intro iq2 hiq2; (repeat' split) <;> omega)).trans rfl
              have fp6 := ev hp6
              have hp7 : a.eval (.tmp 7) = .int .i64 (at_ : Int) := (hrest 7 (by intro iq2 hiq2; (repeat' split) <;> omega)).trans rfl
              have fp7 := ev hp7
              clear hrest
              have hBW : Bz2 ≤ W.heap.size := by have := hb.size; omega
              have cz := cell_kept t4 (hb.block _ (block_lt t4))
              have en0 := cell_kept (show w3.cell? _ = _ from HT4.out.c0) (hb.block _ (block_lt HT4.out.c0))
              have en1 := cell_kept (show w3.cell? _ = _ from HT4.out.c1) (hb.block _ (block_lt HT4.out.c1))
              have en2 := cell_kept (show w3.cell? _ = _ from HT4.out.c2) (hb.block _ (block_lt HT4.out.c2))
              have en3 := cell_kept (show w3.cell? _ = _ from HT4.out.c3) (hb.block _ (block_lt HT4.out.c3))
              have en4 := cell_kept (show w3.cell? _ = _ from HT4.out.c4) (hb.block _ (block_lt HT4.out.c4))
              have en5 := cell_kept (show w3.cell? _ = _ from HT4.out.c5) (hb.block _ (block_lt HT4.out.c5))
              obtain rfl | rfl | rfl | rfl | rfl | rfl | rfl | rfl | rfl | rfl | rfl | rfl | rfl | rfl | rfl | rfl | rfl : iq = 0 ∨ iq = 1 ∨ iq = 2 ∨ iq = 3 ∨ iq = 4 ∨ iq = 5 ∨ iq = 6 ∨ iq = 7 ∨ iq = 8 ∨ iq = 9 ∨ iq = 10 ∨ iq = 11 ∨ iq = 12 ∨ iq = 13 ∨ iq = 14 ∨ iq = 15 ∨ iq = 16 := by omega
              · clear hiq
                clear hk
                refine ⟨_, rfl, rfl, rfl, wp_value (v := .slice (some ⟨W.heap.size, 0, none⟩) 0 0) (w' := W.alloc (.cells #[] 33)) ?_ ⟨_, none, rfl, World.grownBy_alloc _ _ _, (fun _ h => by cases h), (World.ownsRow_lit W #[] 0 hBW (by decide) rfl : (W.alloc (.cells #[] 33)).ownsRow Bz2 33 6 (.slice (some ⟨W.heap.size, 0, none⟩) 0 0) 0 []), fun _ g hg => ?_⟩⟩
                · go_simp
                · have : g = W.heap.size := by simpa [Value.ownBlock] using hg.symm
                  subst this
                  exact ⟨lt_of_row (heap_alloc_new W _), Or.inl (Nat.le_refl _)⟩
              · clear hiq
                clear hk
                refine ⟨_, rfl, rfl, rfl, wp_value (v := .pointer (some ⟨w.heap.size + 1, 4, none⟩)) (w' := W) ?_ ⟨_, none, rfl, World.grownBy.refl _ _, (fun _ h => by cases h), rfl, fun h => nomatch (show false = true from h)⟩⟩
                go_simp
              · clear hiq
                have e1 : a.eval (.tmp 90) = .pointer (some ⟨w.heap.size + 1, 4, none⟩) := hk 1 (mem_of (by kernel_rfl))
                have f1 := ev e1
                clear hk
                refine ⟨_, rfl, rfl, rfl, wp_value (v := .slice pp len cp) (w' := W) ?_ ⟨_, none, rfl, World.grownBy.refl _ _, (fun _ h => by cases h), rfl, fun h => nomatch (show false = true from h)⟩⟩
                go_simp
              · clear hiq
                clear hk
                refine ⟨_, rfl, rfl, rfl, wp_value (v := .int .i64 (at_ : Int)) (w' := W) ?_ ⟨_, none, rfl, World.grownBy.refl _ _, (fun _ h => by cases h), rfl, fun h => nomatch (show false = true from h)⟩⟩
                go_simp
              · clear hiq
                have e2 : a.eval (.tmp 91) = .slice pp len cp := hk 2 (mem_of (by kernel_rfl))
                have f2 := ev e2
                have e3 : a.eval (.tmp 92) = .int .i64 (at_ : Int) := hk 3 (mem_of (by kernel_rfl))
                have f3 := ev e3
                clear hk
                refine ⟨_, rfl, rfl, rfl, wp_value (v := .slice pp at_ cp) (w' := W) ?_ ⟨_, none, rfl, World.grownBy.refl _ _, (fun _ h => by cases h), rfl, fun h => nomatch (show false = true from h)⟩⟩
                go_simp
              · clear hiq
                have e0 : W.ownsRow Bz2 33 6 (a.eval (.tmp 89)) 0 [] := hk 0 (mem_of (by kernel_rfl))
                have e4 : a.eval (.tmp 93) = .slice pp at_ cp := hk 4 (mem_of (by kernel_rfl))
                have f4 := ev e4
                clear hk
                obtain ⟨v', W', hr, ho, hg, hbk⟩ := app31 e0 hBW ((HYL.out.kept (fun k hk => hb.block k (by omega))).first (by omega : at_ ≤ len)) (by omega)
                refine ⟨_, rfl, rfl, rfl, wp_app (.tmp 89) (.tmp 93) rfl rfl rfl e4 hr ⟨_, _, rfl, hg, fun g h => ⟨0, rfl, h⟩, ho, fun _ g h => ⟨own_blk ho g h, ?_⟩⟩⟩
                rcases hbk with hbk | hbk
                · exact Or.inr ⟨0, rfl, hbk.symm.trans h⟩
                · exact Or.inl (by rw [hbk] at h; cases h; exact Nat.le_refl _)
              · clear hiq
                clear hk
                refine ⟨_, rfl, rfl, rfl, wp_value (v := .slice (some ⟨pb, po, none⟩) m pc) (w' := W) ?_ ⟨_, none, rfl, World.grownBy.refl _ _, (fun _ h => by cases h), rfl, fun h => nomatch (show false = true from h)⟩⟩
                go_simp
              · clear hiq
                clear hk
                refine ⟨_, rfl, rfl, rfl, wp_value (v := .int .i64 (i : Int)) (w' := W) ?_ ⟨_, none, rfl, World.grownBy.refl _ _, (fun _ h => by cases h), rfl, fun h => nomatch (show false = true from h)⟩⟩
                go_simp
              · clear hiq
                have e6 : a.eval (.tmp 95) = .slice (some ⟨pb, po, none⟩) m pc := hk 6 (mem_of (by kernel_rfl))
                have f6 := ev e6
                have e7 : a.eval (.tmp 96) = .int .i64 (i : Int) := hk 7 (mem_of (by kernel_rfl))
                have f7 := ev e7
                clear hk
                refine ⟨_, rfl, rfl, rfl, wp_value (v := .pointer (some ⟨pb, po + i * 6, none⟩)) (w' := W) ?_ ⟨_, none, rfl, World.grownBy.refl _ _, (fun _ h => by cases h), rfl, fun h => nomatch (show false = true from h)⟩⟩
                go_simp
              · clear hiq
                have e8 : a.eval (.tmp 97) = .pointer (some ⟨pb, po + i * 6, none⟩) := hk 8 (mem_of (by kernel_rfl))
                have f8 := ev e8
                clear hk
                refine ⟨_, rfl, rfl, rfl, wp_value (v := .agg #[.int .i64 ti.k, .bool ti.b, .int .i64 ti.n, .string ti.s, .slice ai.pa ti.m ai.pc, .slice ai.na ti.q ai.nc]) (w' := W) ?_ ⟨_, none, rfl, World.grownBy.refl _ _, (fun _ h => by cases h), rfl, fun h => nomatch (show false = true from h)⟩⟩
                go_simp
              · clear hiq
                have e9 : a.eval (.tmp 98) = .agg #[.int .i64 ti.k, .bool ti.b, .int .i64 ti.n, .string ti.s, .slice ai.pa ti.m ai.pc, .slice ai.na ti.q ai.nc] := hk 9 (mem_of (by kernel_rfl))
                have f9 := ev e9
                clear hk
                refine ⟨_, rfl, rfl, rfl, wp_value (v := .slice (some ⟨W.heap.size, 0, none⟩) 1 1) (w' := W.alloc (.cells #[.int .i64 ti.k, .bool ti.b, .int .i64 ti.n, .string ti.s, .slice ai.pa ti.m ai.pc, .slice ai.na ti.q ai.nc] 33)) ?_ ⟨_, none, rfl, World.grownBy_alloc _ _ _, (fun _ h => by cases h), (World.ownsRow_lit W #[.int .i64 ti.k, .bool ti.b, .int .i64 ti.n, .string ti.s, .slice ai.pa ti.m ai.pc, .slice ai.na ti.q ai.nc] 1 hBW (by decide) rfl : (W.alloc (.cells #[.int .i64 ti.k, .bool ti.b, .int .i64 ti.n, .string ti.s, .slice ai.pa ti.m ai.pc, .slice ai.na ti.q ai.nc] 33)).ownsRow Bz2 33 6 (.slice (some ⟨W.heap.size, 0, none⟩) 1 1) 1 (ti.cs ai)), fun _ g hg => ?_⟩⟩
                · go_simp
                · have : g = W.heap.size := by simpa [Value.ownBlock] using hg.symm
                  subst this
                  exact ⟨lt_of_row (heap_alloc_new W _), Or.inl (Nat.le_refl _)⟩
              · clear hiq
                have e5 : W.ownsRow Bz2 33 6 (a.eval (.tmp 94)) (0 + at_) ([] ++ YL.take (at_ * 6)) := hk 5 (mem_of (by kernel_rfl))
                have e10 : W.ownsRow Bz2 33 6 (a.eval (.tmp 99)) 1 (ti.cs ai) := hk 10 (mem_of (by kernel_rfl))
                clear hk
                obtain ⟨q8, d8, hq8, s8⟩ := SlT.of_own (S := fun _ => True) e10 (by intro u hu; exact cs_one' _ _ u hu) (fun _ _ => trivial)
                obtain ⟨v', W', hr, ho, hg, hbk⟩ := app31 e5 hBW s8 (by omega)
                refine ⟨_, rfl, rfl, rfl, wp_app (.tmp 94) (.tmp 99) rfl rfl rfl hq8 hr ⟨_, _, rfl, hg, fun g h => ⟨5, rfl, h⟩, ho, fun _ g h => ⟨own_blk ho g h, ?_⟩⟩⟩
                rcases hbk with hbk | hbk
                · exact Or.inr ⟨5, rfl, hbk.symm.trans h⟩
                · exact Or.inl (by rw [hbk] at h; cases h; exact Nat.le_refl _)
              · clear hiq
                clear hk
                refine ⟨_, rfl, rfl, rfl, wp_value (v := .pointer (some ⟨w.heap.size + 1, 4, none⟩)) (w' := W) ?_ ⟨_, none, rfl, World.grownBy.refl _ _, (fun _ h => by cases h), rfl, fun h => nomatch (show false = true from h)⟩⟩
                go_simp
              · clear hiq
                have e12 : a.eval (.tmp 101) = .pointer (some ⟨w.heap.size + 1, 4, none⟩) := hk 12 (mem_of (by kernel_rfl))
                have f12 := ev e12
                clear hk
                refine ⟨_, rfl, rfl, rfl, wp_value (v := .slice pp len cp) (w' := W) ?_ ⟨_, none, rfl, World.grownBy.refl _ _, (fun _ h => by cases h), rfl, fun h => nomatch (show false = true from h)⟩⟩
                go_simp
              · clear hiq
                clear hk
                refine ⟨_, rfl, rfl, rfl, wp_value (v := .int .i64 (at_ : Int)) (w' := W) ?_ ⟨_, none, rfl, World.grownBy.refl _ _, (fun _ h => by cases h), rfl, fun h => nomatch (show false = true from h)⟩⟩
                go_simp
              · clear hiq
                have e13 : a.eval (.tmp 102) = .slice pp len cp := hk 13 (mem_of (by kernel_rfl))
                have f13 := ev e13
                have e14 : a.eval (.tmp 103) = .int .i64 (at_ : Int) := hk 14 (mem_of (by kernel_rfl))
                have f14 := ev e14
                clear hk
                refine ⟨_, rfl, rfl, rfl, wp_value (v := .slice (if cp = at_ then pp else Option.map (fun x => x.add (at_ * 6)) pp) (len - at_) (cp - at_)) (w' := W) ?_ ⟨_, none, rfl, World.grownBy.refl _ _, (fun _ h => by cases h), rfl, fun h => nomatch (show false = true from h)⟩⟩
                go_simp
              · clear hiq
                have e11 : W.ownsRow Bz2 33 6 (a.eval (.tmp 100)) (0 + at_ + 1) ([] ++ YL.take (at_ * 6) ++ (ti.cs ai)) := hk 11 (mem_of (by kernel_rfl))
                have e15 : a.eval (.tmp 104) = .slice (if cp = at_ then pp else Option.map (fun x => x.add (at_ * 6)) pp) (len - at_) (cp - at_) := hk 15 (mem_of (by kernel_rfl))
                have f15 := ev e15
                clear hk
                obtain ⟨v', W', hr, ho, hg, hbk⟩ := app31 e11 hBW ((HYL.out.kept (fun k hk => hb.block k (by omega))).last (by omega : at_ ≤ len)) (by omega)
                refine ⟨_, rfl, rfl, rfl, wp_app (.tmp 100) (.tmp 104) rfl rfl rfl e15 hr ⟨_, _, rfl, hg, fun g h => ⟨11, rfl, h⟩, ho, fun _ g h => ⟨own_blk ho g h, ?_⟩⟩⟩
                rcases hbk with hbk | hbk
                · exact Or.inr ⟨11, rfl, hbk.symm.trans h⟩
                · exact Or.inl (by rw [hbk] at h; cases h; exact Nat.le_refl _)
            case post =>
              intro V W3 hb hV
              have h16 : W3.ownsRow Bz2 33 6 (V 16) (0 + at_ + 1 + (len - at_)) ([] ++ YL.take (at_ * 6) ++ (ti.cs ai) ++ YL.drop (at_ * 6)) := hV 16 (by decide) (by decide)
              have hbz : Below w3.heap.size w3 W3 := hb
              have hgl : ∀ k, (V 16).ownBlock = some k → w3.heap.size ≤ k ∧ k < W3.heap.size := fun k hk => by have := h16.lt k hk; omega
              clear hV hb
              obtain ⟨q2, d2, hq2, hS2⟩ := SlT.of_own (S := fun k => w3.heap.size ≤ k ∧ k < W3.heap.size) h16 (by intro u hu; simp only [List.nil_append, List.mem_append] at hu; rcases hu with (hu | hu) | hu; exact HYL.out.one u (List.mem_of_mem_take hu); exact cs_one' _ _ u hu; exact HYL.out.one u (List.mem_of_mem_drop hu)) hgl
              clear h16 hgl
              have x1 := (hbz.block _ (lt_of_row g1)).trans g1
              have xz4 := frozen_of_row W3 _ 4 _ _ x1
              have xz4c := cell_of_row W3 _ 4 _ _ _ x1
              rw [HL1.out] at hq2 hS2
              have HS2 : Hid (SlT (fun k => w3.heap.size ≤ k ∧ k < W3.heap.size) W3 6 q2 len1 d2 ([] ++ YL.take (at_ * 6) ++ ti.cs ai ++ YL.drop (at_ * 6))) := hS2
              clear hS2
              simp only [putAll, hq2]
              clear hq2
              go_wp2_with fail
              have hzs3 := hbz.size
              have hbf : Below w.heap.size w (W3.setCell ⟨w.heap.size + 1, 4, none⟩ (.slice q2 len1 d2)) := (hb3.trans (hbz.mono (by omega))).setCell (p := ⟨w.heap.size + 1, 4, none⟩) (by show w.heap.size ≤ w.heap.size + 1; omega) _
              have hkf : ∀ k, k ≠ w.heap.size + 1 → (W3.setCell ⟨w.heap.size + 1, 4, none⟩ (.slice q2 len1 d2)).heap[k]? = W3.heap[k]? := fun k hk => Below.heap_setCell _ _ _ k hk
              have hszf : (W3.setCell ⟨w.heap.size + 1, 4, none⟩ (.slice q2 len1 d2)).heap.size = W3.heap.size := by simp
              have f1 := row_setCell (k := 4) x1 (.slice q2 len1 d2)
              have f0 := (hkf w.heap.size (by omega)).trans ((hbz.block _ (by omega)).trans g0)
              have fN := (HS3.out.kept (w' := W3.setCell ⟨w.heap.size + 1, 4, none⟩ (.slice q2 len1 d2)) (fun k hk => (hkf k (by omega)).trans (hbz.block k hk.2))).up (S' := fun k => w.heap.size + 2 ≤ k ∧ k < (W3.setCell ⟨w.heap.size + 1, 4, none⟩ (.slice q2 len1 d2)).heap.size) (fun k hk => ⟨by omega, by omega⟩)
              have fP := (HS2.out.kept (w' := W3.setCell ⟨w.heap.size + 1, 4, none⟩ (.slice q2 len1 d2)) (fun k hk => hkf k (by omega))).up (S' := fun k => w.heap.size + 2 ≤ k ∧ k < (W3.setCell ⟨w.heap.size + 1, 4, none⟩ (.slice q2 len1 d2)).heap.size) (fun k hk => ⟨by omega, by omega⟩)
              have hDe := HD.out
              have fN' : SlT (fun k => w.heap.size + 2 ≤ k ∧ k < (W3.setCell ⟨w.heap.size + 1, 4, none⟩ (.slice q2 len1 d2)).heap.size) (W3.setCell ⟨w.heap.size + 1, 4, none⟩ (.slice q2 len1 d2)) 1 q1 len1 d1 ((docP g (i + 1)).flatMap (cN g)) := by rw [hDe, ins_cells (cN_len g), HXE.out, show cN g i = [.string gi] by unfold cN; rw [HGI.out]]; exact fN
              have fP' : SlT (fun k => w.heap.size + 2 ≤ k ∧ k < (W3.setCell ⟨w.heap.size + 1, 4, none⟩ (.slice q2 len1 d2)).heap.size) (W3.setCell ⟨w.heap.size + 1, 4, none⟩ (.slice q2 len1 d2)) 6 q2 len1 d2 ((docP g (i + 1)).flatMap (cP f A)) := by rw [hDe, ins_cells (cP_len f A), HYE.out, show cP f A i = ti.cs ai by unfold cP; rw [HTI.out.1, HTI.out.2]]; exact fP
              have hll : (docP g (i + 1)).length = len1 := by rw [hDe, List.length_append, List.length_cons, List.length_take, List.length_drop, HLN.out, ← HL1.out]; omega
              clear fN fP hDe HS3 HS2
              go_wp2_with fail
              go_roundw
              case rel => exact ⟨i + 1, len1, d2, d1, q2, q1, by omega, by go_num, hll, f1, f0, fN', fP', hbf, by omega⟩
              case measure => simp [intOf]; omega
    · obtain rfl : i = N := by omega
      have a0 := cell_of_row wo _ 0 _ _ _ hr0
      have a1 := cell_of_row wo _ 1 _ _ _ hr0
      have a2 := cell_of_row wo _ 2 _ _ _ hr0
      have a3 := cell_of_row wo _ 3 _ _ _ hr0
      have a4 := cell_of_row wo _ 4 _ _ _ hr0
      have a5 := cell_of_row wo _ 5 _ _ _ hr0
      have b0 := frozen_of_row wo _ 0 _ _ hr0
      have b1 := frozen_of_row wo _ 1 _ _ hr0
      have b2 := frozen_of_row wo _ 2 _ _ hr0
      have b3 := frozen_of_row wo _ 3 _ _ hr0
      have b4 := frozen_of_row wo _ 4 _ _ hr0
      have b5 := frozen_of_row wo _ 5 _ _ hr0
      have e0 := cell_of_row wo _ 0 _ _ _ hrow
      have e1 := cell_of_row wo _ 1 _ _ _ hrow
      have e2 := cell_of_row wo _ 2 _ _ _ hrow
      have e3 := cell_of_row wo _ 3 _ _ _ hrow
      have e4 := cell_of_row wo _ 4 _ _ _ hrow
      have e5 := cell_of_row wo _ 5 _ _ _ hrow
      have hl1 := hsn.cap
      have hl2 := hsp.cap
      have HSN : Hid (SlT (fun k => w.heap.size + 2 ≤ k ∧ k < wo.heap.size) wo 1 pn len cn ((docP g i).flatMap (cN g))) := hsn
      have HSP : Hid (SlT (fun k => w.heap.size + 2 ≤ k ∧ k < wo.heap.size) wo 6 pp len cp ((docP g i).flatMap (cP f A))) := hsp
      have HLN : Hid ((docP g i).length = len) := hlen
      have hsel : ¬ ((i : Int) < (q : Int) ∧ (i : Int) < (m : Int)) := by have := HN.out; omega
      clear hsn hsp hlen
      by_cases hiq : (i : Int) < (q : Int)
      · have him : ¬ (i : Int) < (m : Int) := fun h => hsel ⟨hiq, h⟩
        go_wp2
        change bodyPost _ _ _ _ _ (set6 wo w.heap.size (.int .i64 6) (.bool false) (.int .i64 0) (.string ⟨#[]⟩) (.slice pp len cp) (.slice pn len cn))
        have hro := set6_row hr0 (.int .i64 6) (.bool false) (.int .i64 0) (.string ⟨#[]⟩) (.slice pp len cp) (.slice pn len cn)
        have hkeep : ∀ k1, k1 ≠ w.heap.size → (set6 wo w.heap.size (.int .i64 6) (.bool false) (.int .i64 0) (.string ⟨#[]⟩) (.slice pp len cp) (.slice pn len cn)).heap[k1]? = wo.heap[k1]? := fun k1 h1 => set6_block _ _ _ _ _ _ _ _ k1 h1
        have hszz := set6_size wo w.heap.size (.int .i64 6) (.bool false) (.int .i64 0) (.string ⟨#[]⟩) (.slice pp len cp) (.slice pn len cn)
        have hof := set6_below hbw w.heap.size (Nat.le_refl _) (.int .i64 6) (.bool false) (.int .i64 0) (.string ⟨#[]⟩) (.slice pp len cp) (.slice pn len cn)
        obtain ⟨wf, hwf⟩ : ∃ wf, set6 wo w.heap.size (.int .i64 6) (.bool false) (.int .i64 0) (.string ⟨#[]⟩) (.slice pp len cp) (.slice pn len cn) = wf := ⟨_, rfl⟩
        rw [hwf] at hro hkeep hszz hof ⊢
        clear hwf
        have o0 := cell_of_row wf _ 0 _ _ _ hro
        have o1 := cell_of_row wf _ 1 _ _ _ hro
        have o2 := cell_of_row wf _ 2 _ _ _ hro
        have o3 := cell_of_row wf _ 3 _ _ _ hro
        have o4 := cell_of_row wf _ 4 _ _ _ hro
        have o5 := cell_of_row wf _ 5 _ _ _ hro
        refine bodyPost_ret (v := .agg #[.int .i64 6, .bool false, .int .i64 0, .string ⟨#[]⟩, .slice pp len cp, .slice pn len cn]) (by simp [results, Try.results22, go_sem, o0, o1, o2, o3, o4, o5]) rfl ⟨⟨pp, cp, pn, cn⟩, ?_, ?_, hof⟩
        · show _ = Ending.returned (.agg #[.int .i64 6, .bool false, .int .i64 0, .string ⟨#[]⟩, .slice pp (docP g i).length cp, .slice pn (docP g i).length cn])
          rw [HLN.out]
        · have hD : ∀ j, j < (docP g i).length → (docP g i).getD j 0 < i := fun j hj => docP_lt g i _ (by rw [List.getD_eq_getElem?_getD, List.getElem?_eq_getElem hj]; exact List.getElem_mem hj)
          refine .mk (fun j => A ((docP g i).getD j 0)) (by decide) (by decide) (Nat.zero_le _) (by show (docP g i).length ≤ cp ∧ cp ≤ maxLen; rw [HLN.out]; exact hl2) (fun h0 => ?_) (fun j hj => ?_) ⟨by show (docP g i).length ≤ cn; rw [HLN.out]; exact hl1.1, hl1.2, fun j hj => HQ3.out _ (by have := hD j hj; omega), fun h0 => ?_⟩
          · obtain ⟨b, o, h1, h2, h3⟩ := parts_at HSP.out HLN.out (by rw [← HLN.out]; exact h0)
            exact ⟨b, o, h1, Or.inr ⟨by omega, by omega⟩, fun j hj => (h3 j (by rw [← HLN.out]; exact hj)).kept (hkeep b (by omega))⟩
          · exact LiesS.up (fun k hk => Or.inl hk) (Lies.later (hof.mono hB) (HR.out _ (by have := hD j hj; omega)))
          · obtain ⟨b, o, h1, h2, h3⟩ := names_at HSN.out HLN.out (by rw [← HLN.out]; exact h0)
            exact ⟨b, o, h1, Or.inr ⟨by omega, by omega⟩, fun j hj => cell_kept (h3 j (by rw [← HLN.out]; exact hj)) (hkeep b (by omega))⟩
      · have hz : True := trivial
        go_wp2
        change bodyPost _ _ _ _ _ (set6 wo w.heap.size (.int .i64 6) (.bool false) (.int .i64 0) (.string ⟨#[]⟩) (.slice pp len cp) (.slice pn len cn))
        have hro := set6_row hr0 (.int .i64 6) (.bool false) (.int .i64 0) (.string ⟨#[]⟩) (.slice pp len cp) (.slice pn len cn)
        have hkeep : ∀ k1, k1 ≠ w.heap.size → (set6 wo w.heap.size (.int .i64 6) (.bool false) (.int .i64 0) (.string ⟨#[]⟩) (.slice pp len cp) (.slice pn len cn)).heap[k1]? = wo.heap[k1]? := fun k1 h1 => set6_block _ _ _ _ _ _ _ _ k1 h1
        have hszz := set6_size wo w.heap.size (.int .i64 6) (.bool false) (.int .i64 0) (.string ⟨#[]⟩) (.slice pp len cp) (.slice pn len cn)
        have hof := set6_below hbw w.heap.size (Nat.le_refl _) (.int .i64 6) (.bool false) (.int .i64 0) (.string ⟨#[]⟩) (.slice pp len cp) (.slice pn len cn)
        obtain ⟨wf, hwf⟩ : ∃ wf, set6 wo w.heap.size (.int .i64 6) (.bool false) (.int .i64 0) (.string ⟨#[]⟩) (.slice pp len cp) (.slice pn len cn) = wf := ⟨_, rfl⟩
        rw [hwf] at hro hkeep hszz hof ⊢
        clear hwf
        have o0 := cell_of_row wf _ 0 _ _ _ hro
        have o1 := cell_of_row wf _ 1 _ _ _ hro
        have o2 := cell_of_row wf _ 2 _ _ _ hro
        have o3 := cell_of_row wf _ 3 _ _ _ hro
        have o4 := cell_of_row wf _ 4 _ _ _ hro
        have o5 := cell_of_row wf _ 5 _ _ _ hro
        refine bodyPost_ret (v := .agg #[.int .i64 6, .bool false, .int .i64 0, .string ⟨#[]⟩, .slice pp len cp, .slice pn len cn]) (by simp [results, Try.results22, go_sem, o0, o1, o2, o3, o4, o5]) rfl ⟨⟨pp, cp, pn, cn⟩, ?_, ?_, hof⟩
        · show _ = Ending.returned (.agg #[.int .i64 6, .bool false, .int .i64 0, .string ⟨#[]⟩, .slice pp (docP g i).length cp, .slice pn (docP g i).length cn])
          rw [HLN.out]
        · have hD : ∀ j, j < (docP g i).length → (docP g i).getD j 0 < i := fun j hj => docP_lt g i _ (by rw [List.getD_eq_getElem?_getD, List.getElem?_eq_getElem hj]; exact List.getElem_mem hj)
          refine .mk (fun j => A ((docP g i).getD j 0)) (by decide) (by decide) (Nat.zero_le _) (by show (docP g i).length ≤ cp ∧ cp ≤ maxLen; rw [HLN.out]; exact hl2) (fun h0 => ?_) (fun j hj => ?_) ⟨by show (docP g i).length ≤ cn; rw [HLN.out]; exact hl1.1, hl1.2, fun j hj => HQ3.out _ (by have := hD j hj; omega), fun h0 => ?_⟩
          · obtain ⟨b, o, h1, h2, h3⟩ := parts_at HSP.out HLN.out (by rw [← HLN.out]; exact h0)
            exact ⟨b, o, h1, Or.inr ⟨by omega, by omega⟩, fun j hj => (h3 j (by rw [← HLN.out]; exact hj)).kept (hkeep b (by omega))⟩
          · exact LiesS.up (fun k hk => Or.inl hk) (Lies.later (hof.mono hB) (HR.out _ (by have := hD j hj; omega)))
          · obtain ⟨b, o, h1, h2, h3⟩ := names_at HSN.out HLN.out (by rw [← HLN.out]; exact h0)
            exact ⟨b, o, h1, Or.inr ⟨by omega, by omega⟩, fun j hj => cell_kept (h3 j (by rw [← HLN.out]; exact hj)) (hkeep b (by omega))⟩
end Go.Proofs.Ytjmjlijmeahmfaa
