/- The halves of a kid in its place (parted). -/
import Derived.Test.YtiplmlalhmldbaaPie
import Derived.Test.YtiplmlalhmldbaaAnt
namespace Go.Proofs.Ytiplmlalhmldbaa
open Go.RowKit Go.Shelf
def Shp : (h : Nat) → Nd h → Prop
  | 0, _ => True
  | _ + 1, t => t.2.length = t.1.length + 1
theorem piece_any : ∀ {h : Nat} {t : Nd h}, Shp h t → (its h t).length ≤ 60 → ∀ {a b : Nat}, a ≤ b → b ≤ (its h t).length → ∀ {v : Value} {w : World}, Lies w h t v →
    Calls Try.prog 46 #[v, .int .i64 (a : Int), .int .i64 (b : Int)] w fun e w' => ∃ v', e = .returned v' ∧ Lies w' h (pieceT h t a b) v' ∧ Below w.heap.size w w'
  | 0, t, _, hn, a, b, hab, hb, v, w, H => by
    obtain ⟨p, c, q, d, rfl, hS, _⟩ := H
    exact piece_leaf (its 0 t) hn a b hab hb p c q d w hS
  | h + 1, t, hs, hn, a, b, hab, hb, v, w, H => by
    obtain ⟨p, c, q, d, L, rfl, hS, hK, hL⟩ := H.open
    exact piece_inner t.1 t.2 hn hs a b hab hb p c q d w hS L hK hL
def LV (h : Nat) (t : Nd h) (v : Value) (W : World) : Prop := Lies W h t v
theorem LV.later {h : Nat} {t : Nd h} : ∀ v W W', LV h t v W → Below W.heap.size W W' → LV h t v W' := fun _ _ _ H hb => Lies.later hb H
/- A block of an empty node, made anew behind so many. -/
def AlV (B : Nat) (v : Value) (W : World) : Prop := ∃ g, v = .pointer (some ⟨g, 0, none⟩) ∧ W.heap[g]? = some (.cells #[.slice none 0 0, .slice none 0 0] 59 (0, 0)) ∧ B ≤ g
theorem AlV.later {B : Nat} : ∀ v W W', AlV B v W → Below W.heap.size W W' → AlV B v W' := fun _ _ _ ⟨g, h1, h2, h3⟩ hb => ⟨g, h1, (hb.block g (lt_of_row h2)).trans h2, h3⟩
def NwV (v : Value) (W : World) : Prop := v = .pointer (some ⟨W.heap.size, 0, none⟩)
def bx1011 (i : Nat) : Bool := i == 10 || i == 11
theorem LiesL.kept {w w' : World} {X : Nat} {T : TypeId} {fr : Nat × Nat} (hX : w.heap[X]? = some (.cells zrow T fr)) (hs : w.heap.size ≤ w'.heap.size) (ho : ∀ k, k ≠ X → w'.heap[k]? = w.heap[k]?) {h : Nat} {ts : List (Nd h)} {L : List Value} (hok : ∀ t ∈ ts, Ok h t) (H : LiesL w h ts L) : LiesL w' h ts L :=
  ⟨H.1, fun i hi => (H.2 i hi).kept hX hs ho (hok _ (by rw [List.getD_eq_getElem?_getD, List.getElem?_eq_getElem hi]; exact List.getElem_mem hi))⟩
theorem LiesL.head {w : World} {h : Nat} {ts : List (Nd h)} {L : List Value} (H : LiesL w h ts L) (hok : ∀ t ∈ ts, Ok h t ∧ 0 < (its h t).length) : ∀ u, L[0]? = some u → u ∉ (#[.slice none 0 0, .slice none 0 0] : Array Value) := by
  intro u hu hm
  have hl := H.1
  have h0 : 0 < ts.length := by
    rcases Nat.eq_zero_or_pos ts.length with h | h
    · rw [List.getElem?_eq_none (by omega)] at hu; cases hu
    · exact h
  have hmem : ts.getD 0 (dflt h) ∈ ts := by rw [List.getD_eq_getElem?_getD, List.getElem?_eq_getElem h0]; exact List.getElem_mem h0
  obtain ⟨p, c, q, d, L', e, -, -⟩ := (H.2 0 h0).form
  have hn := (hok _ hmem).2
  obtain ⟨m, hm2⟩ : ∃ m, (its h (ts.getD 0 (dflt h))).length = m := ⟨_, rfl⟩
  rw [hm2] at e hn
  have e2 := agg2 e
  rw [List.getD_eq_getElem?_getD, Nat.mul_zero, hu, Option.getD_some] at e2
  rw [e2.1] at hm
  simp at hm
  omega
theorem Sl.two (w : World) (T : TypeId) (a b c d : Value) (ha : a.oneCell' = true) (hb : b.oneCell' = true) (hc : c.oneCell' = true) (hd : d.oneCell' = true) : Sl (w.alloc (.cells #[a, b, c, d] T)) (some ⟨w.heap.size, 0, none⟩) 2 2 [a, b, c, d] := by
  refine ⟨⟨Nat.le_refl _, by decide⟩, rfl, fun u hu => ?_, fun _ => ⟨w.heap.size, 0, rfl, by simp, fun j u hu => ?_⟩⟩
  · simp only [List.mem_cons, List.not_mem_nil, or_false] at hu
    rcases hu with rfl | rfl | rfl | rfl <;> assumption
  · rw [cell_of_row _ _ _ _ _ _ (heap_alloc_new w _), Nat.zero_add]
    simpa using hu
def Nd2V (n : Nat) (L : List Value) (m : Nat) (K : List Value) (v : Value) (W : World) : Prop := ∃ p c q d, v = .agg #[.slice p n c, .slice q m d] ∧ Sl W p n c L ∧ Sl W q m d K
theorem Nd2V.later {n : Nat} {L : List Value} {m : Nat} {K : List Value} : ∀ v W W', Nd2V n L m K v W → Below W.heap.size W W' → Nd2V n L m K v W' := fun _ _ _ ⟨p, c, q, d, h1, h2, h3⟩ hb => ⟨p, c, q, d, h1, h2.later hb, h3.later hb⟩
def partedT {h : Nat} (xs : List Im) (ts : List (Nd h)) (i : Nat) (kid : Nd h) : Nd (h + 1) :=
  ((xs.take i ++ [(its h kid)[(its h kid).length / 2]!] ++ xs.drop i, ts.take i ++ [pieceT h kid 0 ((its h kid).length / 2), pieceT h kid ((its h kid).length / 2 + 1) (its h kid).length] ++ ts.drop (i + 1)) : List Im × List (Nd h))
set_option maxRecDepth 100000 in
set_option maxHeartbeats 8000000 in
theorem parted_any {h : Nat} (xs : List Im) (ts : List (Nd h)) (kid : Nd h) (i : Nat) (hi : i ≤ xs.length) (hn : xs.length ≤ 50) (hts : ts.length = xs.length + 1) (hK0 : 0 < (its h kid).length) (hK50 : (its h kid).length ≤ 50) (hshp : Shp h kid)
    (okl : Ok h (pieceT h kid 0 ((its h kid).length / 2))) (okr : Ok h (pieceT h kid ((its h kid).length / 2 + 1) (its h kid).length)) (hok : ∀ t ∈ ts.take i ++ [pieceT h kid 0 ((its h kid).length / 2), pieceT h kid ((its h kid).length / 2 + 1) (its h kid).length] ++ ts.drop (i + 1), Ok h t ∧ 0 < (its h t).length)
    (p : Option Addr) (c : Nat) (q : Option Addr) (d : Nat) (w : World) (hS : Sl w p xs.length c (itC xs)) (L : List Value) (hQ : Sl w q ts.length d L) (hL : LiesL w h ts L) (kv : Value) (hkv : Lies w h kid kv) :
    Calls Try.prog 37 #[.agg #[.slice p xs.length c, .slice q ts.length d], .int .i64 (i : Int), kv] w fun e w' => ∃ v, e = .returned v ∧ Lies w' (h + 1) (partedT xs ts i kid) v ∧ Below w.heap.size w w' := by
  obtain ⟨kp, kc, kq, kd, KL, rfl, hkS, hkQ⟩ := hkv.form
  obtain ⟨w3, hw3⟩ : ∃ w3, ((w.alloc (.cells #[.slice p xs.length c, .slice q ts.length d] 59)).alloc (.cells #[.slice kp (its h kid).length kc, .slice kq (kdn h kid) kd] 59)).alloc (.cells #[.slice none 0 0, .slice none 0 0] 59) = w3 := ⟨_, rfl⟩
  have hb3 : Below w.heap.size w w3 := by rw [← hw3]; exact (((Below.refl _ w).alloc (Nat.le_refl _) _).alloc (by simp) _).alloc (by simp; omega) _
  have r0 : w3.heap[w.heap.size]? = some (.cells #[.slice p xs.length c, .slice q ts.length d] 59 (0, 0)) := by
    rw [← hw3, Below.heap_alloc _ _ _ (by simp; omega), Below.heap_alloc _ _ _ (by simp)]; exact heap_alloc_new _ _
  have r1 : w3.heap[w.heap.size + 1]? = some (.cells #[.slice kp (its h kid).length kc, .slice kq (kdn h kid) kd] 59 (0, 0)) := by
    rw [← hw3, Below.heap_alloc _ _ _ (by simp)]
    have := heap_alloc_new (w.alloc (.cells #[.slice p xs.length c, .slice q ts.length d] 59)) (.cells #[.slice kp (its h kid).length kc, .slice kq (kdn h kid) kd] 59)
    simpa using this
  have r2 : w3.heap[w.heap.size + 1 + 1]? = some (.cells #[.slice none 0 0, .slice none 0 0] 59 (0, 0)) := by
    rw [← hw3]
    have := heap_alloc_new ((w.alloc (.cells #[.slice p xs.length c, .slice q ts.length d] 59)).alloc (.cells #[.slice kp (its h kid).length kc, .slice kq (kdn h kid) kd] 59)) (.cells #[.slice none 0 0, .slice none 0 0] 59)
    simpa using this
  have a0 := cell_of_row w3 _ 0 _ _ _ r1
  obtain ⟨m, hm⟩ : ∃ m, (its h kid).length / 2 = m := ⟨_, rfl⟩
  have hmi : ((its h kid).length : Int).tdiv 2 = (m : Int) := by rw [Int.tdiv_eq_ediv_of_nonneg (by omega)]; omega
  have hmw : IntKind.i64.wrap (m : Int) = (m : Int) := by rw [IntKind.wrap_i64]; omega
  have hmlt : m < (its h kid).length := by omega
  have hk0 := hkv.later hb3
  have hp1 : ∀ W, Lies W h kid (.agg #[.slice kp (its h kid).length kc, .slice kq (kdn h kid) kd]) → Calls Try.prog 46 #[.agg #[.slice kp (its h kid).length kc, .slice kq (kdn h kid) kd], .int .i64 0, .int .i64 (m : Int)] W fun e w' => ∃ v', e = .returned v' ∧ Lies w' h (pieceT h kid 0 m) v' ∧ Below W.heap.size W w' := fun W H => piece_any (a := 0) (b := m) hshp (by omega) (Nat.zero_le _) (by omega) H
  have hp2 : ∀ W, Lies W h kid (.agg #[.slice kp (its h kid).length kc, .slice kq (kdn h kid) kd]) → Calls Try.prog 46 #[.agg #[.slice kp (its h kid).length kc, .slice kq (kdn h kid) kd], .int .i64 ((m : Int) + 1), .int .i64 ((its h kid).length : Int)] W fun e w' => ∃ v', e = .returned v' ∧ Lies w' h (pieceT h kid (m + 1) (its h kid).length) v' ∧ Below W.heap.size W w' := fun W H => piece_any (a := m + 1) (b := (its h kid).length) hshp (by omega) (by omega) (Nat.le_refl _) H
  have hapart : ∀ i v u W, bx1011 i = true → mixR [(2, LV h (pieceT h kid 0 m)), (9, LV h (pieceT h kid (m + 1) (its h kid).length)), (10, AlV w3.heap.size), (11, AlV w3.heap.size)] [.agg #[.slice kp (its h kid).length kc, .slice kq (kdn h kid) kd], .int .i64 (m : Int), undef, .agg #[.slice kp (its h kid).length kc, .slice kq (kdn h kid) kd], .int .i64 (m : Int), .int .i64 ((m : Int) + 1), .pointer (some ⟨w.heap.size + 1, 0, none⟩), .slice kp (its h kid).length kc, .int .i64 ((its h kid).length : Int), undef, undef, undef] i u W → NwV v W → v ≠ u ∧ u ≠ v := by
    intro i v u W hbx hR hN
    have hA : AlV w3.heap.size u W := by
      unfold bx1011 at hbx
      rcases (show i = 10 ∨ i = 11 by simpa using hbx) with rfl | rfl <;> exact hR
    obtain ⟨g, rfl, hg, _⟩ := hA
    have hlt := lt_of_row hg
    rw [hN]
    refine ⟨fun e => ?_, fun e => ?_⟩ <;> (injection e with e; injection e with e; injection e with e; omega)
  unfold partedT
  rw [hm] at okl okr hok ⊢
  have HOK : Hid (Ok h (pieceT h kid 0 m) ∧ Ok h (pieceT h kid (m + 1) (its h kid).length) ∧ ∀ t ∈ ts.take i ++ [pieceT h kid 0 m, pieceT h kid (m + 1) (its h kid).length] ++ ts.drop (i + 1), Ok h t ∧ 0 < (its h t).length) := ⟨okl, okr, hok⟩
  have HTS : Hid (ts.length = xs.length + 1) := hts
  clear okl okr hok hm hts
  go_enter Try.func37, Try.ntmps37
  go_wp2
  clear hw3 a0
  refine any_tail2 (by kernel_rfl) 12 (by exact Nat.le_of_ble_eq_true rfl) (fun i => if i < 10 then i + 14 else i - 2) (mixR [(2, LV h (pieceT h kid 0 m)), (9, LV h (pieceT h kid (m + 1) (its h kid).length)), (10, AlV w3.heap.size), (11, AlV w3.heap.size)] [.agg #[.slice kp (its h kid).length kc, .slice kq (kdn h kid) kd], .int .i64 (m : Int), undef, .agg #[.slice kp (its h kid).length kc, .slice kq (kdn h kid) kd], .int .i64 (m : Int), .int .i64 ((m : Int) + 1), .pointer (some ⟨w.heap.size + 1, 0, none⟩), .slice kp (its h kid).length kc, .int .i64 ((its h kid).length : Int), undef, undef, undef]) (bx1011) (NwV) (fun v u => v ≠ u) (hapart) (by kernel_rfl) (by kernel_rfl) (by kernel_rfl) (by kernel_rfl) (mixR_later _ _ (stab_cons LV.later (stab_cons LV.later (stab_cons AlV.later (stab_cons AlV.later stab_nil))))) ?step ?post
  case step =>
    intro iq hiq a W hrest hb hk
    have hp5 : a.eval (.tmp 5) = .pointer (some ⟨w.heap.size + 1, 0, none⟩) := (hrest 5 (by intro iq2 hiq2; (repeat' split) <;> omega)).trans rfl
    have fp5 := ev hp5
    have hx5 : W.heap[w.heap.size + 1]? = some (.cells #[.slice kp (its h kid).length kc, .slice kq (kdn h kid) kd] 59 (0, 0)) := (hb.block _ (lt_of_row r1)).trans r1
    have hp7 : a.eval (.tmp 7) = .int .i64 (m : Int) := (hrest 7 (by intro iq2 hiq2; (repeat' split) <;> omega)).trans rfl
    have fp7 := ev hp7
    clear hrest
    obtain rfl | rfl | rfl | rfl | rfl | rfl | rfl | rfl | rfl | rfl | rfl | rfl : iq = 0 ∨ iq = 1 ∨ iq = 2 ∨ iq = 3 ∨ iq = 4 ∨ iq = 5 ∨ iq = 6 ∨ iq = 7 ∨ iq = 8 ∨ iq = 9 ∨ iq = 10 ∨ iq = 11 := by omega
    · clear hiq
      clear hk
      refine ⟨_, rfl, rfl, rfl, wp_load_row 59 (.tmp 5) rfl (w.heap.size + 1) hp5 59 #[.slice kp (its h kid).length kc, .slice kq (kdn h kid) kd] (0, 0) _ hx5 Try.underlying59 rfl (by kernel_rfl) ?_⟩
      exact ⟨_, rfl, Below.refl _ _, rfl, fun hq => absurd hq (by decide)⟩
    · clear hiq
      clear hk
      refine ⟨_, rfl, rfl, rfl, wp_value (v := .int .i64 (m : Int)) (w' := W) ?_ ⟨_, rfl, Below.refl _ _, rfl, fun hq => absurd hq (by decide)⟩⟩
      go_simp
    · clear hiq
      have e0 : a.eval (.tmp 14) = .agg #[.slice kp (its h kid).length kc, .slice kq (kdn h kid) kd] := hk 0 (mem_of (by kernel_rfl))
      have f0 := ev e0
      have e1 : a.eval (.tmp 15) = .int .i64 (m : Int) := hk 1 (mem_of (by kernel_rfl))
      have f1 := ev e1
      clear hk
      refine ⟨_, rfl, rfl, rfl, wp_enter (f := 46) (args := #[.agg #[.slice kp (its h kid).length kc, .slice kq (kdn h kid) kd], .int .i64 0, .int .i64 (m : Int)]) ?_ ((hp1 W (hk0.later hb)).mono ?_)⟩
      · go_simp
      · rintro e w2 ⟨v2, rfl, hv2, hb2⟩
        exact ⟨_, rfl, _, rfl, hb2, hv2, fun hq => absurd hq (by decide)⟩
    · clear hiq
      clear hk
      refine ⟨_, rfl, rfl, rfl, wp_load_row 59 (.tmp 5) rfl (w.heap.size + 1) hp5 59 #[.slice kp (its h kid).length kc, .slice kq (kdn h kid) kd] (0, 0) _ hx5 Try.underlying59 rfl (by kernel_rfl) ?_⟩
      exact ⟨_, rfl, Below.refl _ _, rfl, fun hq => absurd hq (by decide)⟩
    · clear hiq
      clear hk
      refine ⟨_, rfl, rfl, rfl, wp_value (v := .int .i64 (m : Int)) (w' := W) ?_ ⟨_, rfl, Below.refl _ _, rfl, fun hq => absurd hq (by decide)⟩⟩
      go_simp
    · clear hiq
      have e4 : a.eval (.tmp 18) = .int .i64 (m : Int) := hk 4 (mem_of (by kernel_rfl))
      have f4 := ev e4
      clear hk
      refine ⟨_, rfl, rfl, rfl, wp_value (v := .int .i64 ((m : Int) + 1)) (w' := W) ?_ ⟨_, rfl, Below.refl _ _, rfl, fun hq => absurd hq (by decide)⟩⟩
      go_simp
      rw [IntKind.wrap_i64]; omega
    · clear hiq
      clear hk
      refine ⟨_, rfl, rfl, rfl, wp_value (v := .pointer (some ⟨w.heap.size + 1, 0, none⟩)) (w' := W) ?_ ⟨_, rfl, Below.refl _ _, rfl, fun hq => absurd hq (by decide)⟩⟩
      go_simp
    · clear hiq
      have e6 : a.eval (.tmp 20) = .pointer (some ⟨w.heap.size + 1, 0, none⟩) := hk 6 (mem_of (by kernel_rfl))
      have f6 := ev e6
      have hc : W.cell? ⟨w.heap.size + 1, 0, none⟩ = some (.slice kp (its h kid).length kc) := cell_of_row W _ 0 _ _ _ hx5
      clear hk
      refine ⟨_, rfl, rfl, rfl, wp_value (v := .slice kp (its h kid).length kc) (w' := W) ?_ ⟨_, rfl, Below.refl _ _, rfl, fun hq => absurd hq (by decide)⟩⟩
      go_simp
    · clear hiq
      have e7 : a.eval (.tmp 21) = .slice kp (its h kid).length kc := hk 7 (mem_of (by kernel_rfl))
      have f7 := ev e7
      clear hk
      refine ⟨_, rfl, rfl, rfl, wp_value (v := .int .i64 ((its h kid).length : Int)) (w' := W) ?_ ⟨_, rfl, Below.refl _ _, rfl, fun hq => absurd hq (by decide)⟩⟩
      go_simp
    · clear hiq
      have e3 : a.eval (.tmp 17) = .agg #[.slice kp (its h kid).length kc, .slice kq (kdn h kid) kd] := hk 3 (mem_of (by kernel_rfl))
      have f3 := ev e3
      have e5 : a.eval (.tmp 19) = .int .i64 ((m : Int) + 1) := hk 5 (mem_of (by kernel_rfl))
      have f5 := ev e5
      have e8 : a.eval (.tmp 22) = .int .i64 ((its h kid).length : Int) := hk 8 (mem_of (by kernel_rfl))
      have f8 := ev e8
      clear hk
      refine ⟨_, rfl, rfl, rfl, wp_enter (f := 46) (args := #[.agg #[.slice kp (its h kid).length kc, .slice kq (kdn h kid) kd], .int .i64 ((m : Int) + 1), .int .i64 ((its h kid).length : Int)]) ?_ ((hp2 W (hk0.later hb)).mono ?_)⟩
      · go_simp
      · rintro e w2 ⟨v2, rfl, hv2, hb2⟩
        exact ⟨_, rfl, _, rfl, hb2, hv2, fun hq => absurd hq (by decide)⟩
    · clear hiq
      clear hk
      refine ⟨_, rfl, rfl, rfl, wp_value (v := .pointer (some ⟨W.heap.size, 0, none⟩)) (w' := W.alloc (.cells #[.slice none 0 0, .slice none 0 0] 59)) ?_ ⟨_, rfl, (Below.refl _ _).alloc (Nat.le_refl _) _, ⟨_, rfl, heap_alloc_new _ _, hb.size⟩, fun _ => rfl⟩⟩
      go_simp
    · clear hiq
      clear hk
      refine ⟨_, rfl, rfl, rfl, wp_value (v := .pointer (some ⟨W.heap.size, 0, none⟩)) (w' := W.alloc (.cells #[.slice none 0 0, .slice none 0 0] 59)) ?_ ⟨_, rfl, (Below.refl _ _).alloc (Nat.le_refl _) _, ⟨_, rfl, heap_alloc_new _ _, hb.size⟩, fun _ => rfl⟩⟩
      go_simp
  case post =>
    intro V W hbW hV hA
    have e2 : Lies W h (pieceT h kid 0 m) (V 2) := hV 2 (by omega)
    have e9 : Lies W h (pieceT h kid (m + 1) (its h kid).length) (V 9) := hV 9 (by omega)
    obtain ⟨g8, e8, s8, l8⟩ : AlV w3.heap.size (V 10) W := hV 10 (by omega)
    obtain ⟨g9, e9p, s9, l9⟩ : AlV w3.heap.size (V 11) W := hV 11 (by omega)
    have hne : V 10 ≠ V 11 := hA 10 11 (by omega) (by omega) (by omega) rfl rfl
    have hg : ¬ g8 = g9 := fun e => hne (by rw [e8, e9p, e])
    have hg' : ¬ g9 = g8 := fun e => hg e.symm
    obtain ⟨pl, cl, ql, dl, Ll, el, -, -⟩ := e2.form
    obtain ⟨pr, cr, qr, dr, Lr, er, -, -⟩ := e9.form
    clear hV hA hne
    simp only [putAll, Nat.reduceAdd, Nat.reduceSub, Nat.reduceLT, if_true, if_false]
    rw [e8, e9p, el, er]
    rw [el] at e2
    rw [er] at e9
    simp only [Act.put, List.setIfInBounds_toArray, List.set_cons_zero, List.set_cons_succ]
    clear e8 e9p el er
    have u0 := cell_of_row W _ 0 _ _ _ s8
    have u1 := cell_of_row W _ 1 _ _ _ s8
    have v0 := cell_of_row W _ 0 _ _ _ s9
    have v1 := cell_of_row W _ 1 _ _ _ s9
    have fu0 := frozen_of_row W _ 0 _ _ s8
    have fu1 := frozen_of_row W _ 1 _ _ s8
    have fv0 := frozen_of_row W _ 0 _ _ s9
    have fv1 := frozen_of_row W _ 1 _ _ s9
    obtain ⟨lft, hlft⟩ : ∃ t, pieceT h kid 0 m = t := ⟨_, rfl⟩
    obtain ⟨rgt, hrgt⟩ : ∃ t, pieceT h kid (m + 1) (its h kid).length = t := ⟨_, rfl⟩
    rw [hlft] at e2 HOK ⊢
    rw [hrgt] at e9 HOK ⊢
    obtain ⟨nl, hnl⟩ : ∃ n, (its h lft).length = n := ⟨_, rfl⟩
    obtain ⟨ml, hml⟩ : ∃ n, kdn h lft = n := ⟨_, rfl⟩
    obtain ⟨nr, hnr⟩ : ∃ n, (its h rgt).length = n := ⟨_, rfl⟩
    obtain ⟨mr, hmr⟩ : ∃ n, kdn h rgt = n := ⟨_, rfl⟩
    rw [hnl, hml, hnr, hmr]
    rw [hnl, hml] at e2
    rw [hnr, hmr] at e9
    have HLF : Hid (pieceT h kid 0 m = lft) := hlft
    have HRF : Hid (pieceT h kid (m + 1) (its h kid).length = rgt) := hrgt
    clear hlft hrgt hnl hml hnr hmr hp1 hp2 hapart
    go_wp2
    obtain ⟨w4, hw4⟩ : ∃ w4, ((((W.setCell ⟨g8, 0, none⟩ (.slice pl nl cl)).setCell ⟨g8, 1, none⟩ (.slice ql ml dl)).setCell ⟨g9, 0, none⟩ (.slice pr nr cr)).setCell ⟨g9, 1, none⟩ (.slice qr mr dr)) = w4 := ⟨_, rfl⟩
    rw [hw4]
    have h3w : w.heap.size + 2 < w3.heap.size := lt_of_row r2
    have o4 : ∀ k, k ≠ g8 → k ≠ g9 → w4.heap[k]? = W.heap[k]? := fun k h1 h2 => by rw [← hw4, set2_other _ _ _ _ k h2, set2_other _ _ _ _ k h1]
    have t8a := set2_row s8 (.slice pl nl cl) (.slice ql ml dl)
    have t8 : w4.heap[g8]? = some (.cells #[.slice pl nl cl, .slice ql ml dl] 59 (0, 0)) := by rw [← hw4, set2_other _ _ _ _ g8 hg]; exact t8a
    have s9a := (set2_other W g8 (.slice pl nl cl) (.slice ql ml dl) g9 hg').trans s9
    have t9 : w4.heap[g9]? = some (.cells #[.slice pr nr cr, .slice qr mr dr] 59 (0, 0)) := by rw [← hw4]; exact set2_row s9a _ _
    have E2a := e2.kept s8 (set2_size W g8 (.slice pl nl cl) (.slice ql ml dl)) (set2_other W g8 _ _) HOK.out.1
    have E9a := e9.kept s8 (set2_size W g8 (.slice pl nl cl) (.slice ql ml dl)) (set2_other W g8 _ _) HOK.out.2.1
    have E2 : Lies w4 h lft (.agg #[.slice pl nl cl, .slice ql ml dl]) := by rw [← hw4]; exact E2a.kept s9a (set2_size _ g9 _ _) (set2_other _ g9 _ _) HOK.out.1
    have E9 : Lies w4 h rgt (.agg #[.slice pr nr cr, .slice qr mr dr]) := by rw [← hw4]; exact E9a.kept s9a (set2_size _ g9 _ _) (set2_other _ g9 _ _) HOK.out.2.1
    have hBW : Below w.heap.size w W := hb3.trans (hbW.mono hb3.size)
    have hB4 : Below w.heap.size w w4 := by rw [← hw4]; exact below_set2 (below_set2 hBW (Nat.le_trans hb3.size l8) _ _) (Nat.le_trans hb3.size l9) _ _
    have t0 : w4.heap[w.heap.size]? = _ := (o4 _ (by omega) (by omega)).trans ((hbW.block _ (lt_of_row r0)).trans r0)
    have t1 : w4.heap[w.heap.size + 1]? = _ := (o4 _ (by omega) (by omega)).trans ((hbW.block _ (lt_of_row r1)).trans r1)
    have t2 : w4.heap[w.heap.size + 1 + 1]? = _ := (o4 _ (by omega) (by omega)).trans ((hbW.block _ (lt_of_row r2)).trans r2)
    clear hw4 E2a E9a t8a s9a e2 e9 s8 s9 u0 u1 v0 v1 fu0 fu1 fv0 fv1 hbW hBW r0 r1 r2 o4 hk0 hkv
    obtain ⟨kb, ko, rfl, kbl0, kcs⟩ := hkS.lies (by omega)
    obtain ⟨kc10, kc20⟩ := Sl.get kcs hmlt
    have kc1 := (cell_later hB4 kbl0).trans kc10
    have kc2 := (cell_later hB4 kbl0).trans kc20
    have kbl : kb < w4.heap.size := Nat.lt_of_lt_of_le kbl0 hB4.size
    have hkcap := hkS.cap
    have hr10 : ∀ W, Below w4.heap.size w4 W → ∀ p9 c9, Sl W p9 1 c9 (itC [((its h kid)[m]!)]) → Calls Try.prog 34 #[.slice p xs.length c, .int .i64 (i : Int), .int .i64 (i : Int), .slice p9 1 c9] W fun e w' => ∃ p' c', e = .returned (.slice p' (i + 1 + (xs.length - i)) c') ∧ Sl w' p' (i + 1 + (xs.length - i)) c' ((itC xs).take (i * 2) ++ itC [((its h kid)[m]!)] ++ (itC xs).drop (i * 2)) ∧ Below W.heap.size W w' := fun W hb p9 c9 h9 => repl66 (itC xs) p xs.length c (itC [((its h kid)[m]!)]) p9 1 c9 i i (Nat.le_refl _) hi (by omega) (by omega) W ((hS.later hB4).later hb) h9
    have hr19 : ∀ W, Below w4.heap.size w4 W → ∀ p18 c18, Sl W p18 2 c18 [Value.slice pl nl cl, Value.slice ql ml dl, Value.slice pr nr cr, Value.slice qr mr dr] → Calls Try.prog 45 #[.slice q ts.length d, .int .i64 (i : Int), .int .i64 ((i : Int) + 1), .slice p18 2 c18] W fun e w' => ∃ p' c', e = .returned (.slice p' (i + 2 + (ts.length - (i + 1))) c') ∧ Sl w' p' (i + 2 + (ts.length - (i + 1))) c' (L.take (i * 2) ++ [Value.slice pl nl cl, Value.slice ql ml dl, Value.slice pr nr cr, Value.slice qr mr dr] ++ L.drop ((i + 1) * 2)) ∧ Below W.heap.size W w' := fun W hb p18 c18 h18 => repl59 L q ts.length d [Value.slice pl nl cl, Value.slice ql ml dl, Value.slice pr nr cr, Value.slice qr mr dr] p18 2 c18 i (i + 1) (by omega) (by have := HTS.out; omega) (by have := HTS.out; omega) (by omega) W ((hQ.later hB4).later hb) h18
    refine any_tail (by kernel_rfl) 21 (by exact Nat.le_of_ble_eq_true rfl) (fun i => i + 24) (mixR [(9, SlV 1 (itC [((its h kid)[m]!)])), (10, SlV (i + 1 + (xs.length - i)) ((itC xs).take (i * 2) ++ itC [((its h kid)[m]!)] ++ (itC xs).drop (i * 2))), (18, SlV 2 [Value.slice pl nl cl, Value.slice ql ml dl, Value.slice pr nr cr, Value.slice qr mr dr]), (19, SlV (i + 2 + (ts.length - (i + 1))) (L.take (i * 2) ++ [Value.slice pl nl cl, Value.slice ql ml dl, Value.slice pr nr cr, Value.slice qr mr dr] ++ L.drop ((i + 1) * 2))), (20, Nd2V (i + 1 + (xs.length - i)) ((itC xs).take (i * 2) ++ itC [((its h kid)[m]!)] ++ (itC xs).drop (i * 2)) (i + 2 + (ts.length - (i + 1))) (L.take (i * 2) ++ [Value.slice pl nl cl, Value.slice ql ml dl, Value.slice pr nr cr, Value.slice qr mr dr] ++ L.drop ((i + 1) * 2)))] [.pointer (some ⟨w.heap.size, 0, none⟩), .slice p xs.length c, .int .i64 (i : Int), .int .i64 (i : Int), .pointer (some ⟨w.heap.size + 1, 0, none⟩), .slice (some ⟨kb, ko, none⟩) (its h kid).length kc, .int .i64 (m : Int), .pointer (some ⟨kb, ko + m * 2, none⟩), .agg #[.string ((its h kid)[m]!).1, .string ((its h kid)[m]!).2], undef, undef, .pointer (some ⟨w.heap.size, 1, none⟩), .slice q ts.length d, .int .i64 (i : Int), .int .i64 (i : Int), .int .i64 ((i : Int) + 1), .agg #[.slice pl nl cl, .slice ql ml dl], .agg #[.slice pr nr cr, .slice qr mr dr], undef, undef, undef]) (by kernel_rfl) (by kernel_rfl) (by kernel_rfl) (by kernel_rfl) (mixR_later _ _ (stab_cons SlV.later (stab_cons SlV.later (stab_cons SlV.later (stab_cons SlV.later (stab_cons Nd2V.later stab_nil)))))) ?step ?post
    case step =>
      intro iq hiq a W hrest hb hk
      have hp3 : a.eval (.tmp 3) = .pointer (some ⟨w.heap.size, 0, none⟩) := (hrest 3 (by intro iq2 hiq2; (repeat' split) <;> omega)).trans rfl
      have fp3 := ev hp3
      have hx3 : W.heap[w.heap.size]? = some (.cells #[.slice p xs.length c, .slice q ts.length d] 59 (0, 0)) := (hb.block _ (lt_of_row t0)).trans t0
      have hp5 : a.eval (.tmp 5) = .pointer (some ⟨w.heap.size + 1, 0, none⟩) := (hrest 5 (by intro iq2 hiq2; (repeat' split) <;> omega)).trans rfl
      have fp5 := ev hp5
      have hx5 : W.heap[w.heap.size + 1]? = some (.cells #[.slice (some ⟨kb, ko, none⟩) (its h kid).length kc, .slice kq (kdn h kid) kd] 59 (0, 0)) := (hb.block _ (lt_of_row t1)).trans t1
      have hp8 : a.eval (.tmp 8) = .pointer (some ⟨g8, 0, none⟩) := (hrest 8 (by intro iq2 hiq2; (repeat' split) <;> omega)).trans rfl
      have fp8 := ev hp8
      have hx8 : W.heap[g8]? = some (.cells #[.slice pl nl cl, .slice ql ml dl] 59 (0, 0)) := (hb.block _ (lt_of_row t8)).trans t8
      have hp9 : a.eval (.tmp 9) = .pointer (some ⟨g9, 0, none⟩) := (hrest 9 (by intro iq2 hiq2; (repeat' split) <;> omega)).trans rfl
      have fp9 := ev hp9
      have hx9 : W.heap[g9]? = some (.cells #[.slice pr nr cr, .slice qr mr dr] 59 (0, 0)) := (hb.block _ (lt_of_row t9)).trans t9
      have hp1 : a.eval (.tmp 1) = .int .i64 (i : Int) := (hrest 1 (by intro iq2 hiq2; (repeat' split) <;> omega)).trans rfl
      have fp1 := ev hp1
      have hp7 : a.eval (.tmp 7) = .int .i64 (m : Int) := (hrest 7 (by intro iq2 hiq2; (repeat' split) <;> omega)).trans rfl
      have fp7 := ev hp7
      clear hrest
      obtain rfl | rfl | rfl | rfl | rfl | rfl | rfl | rfl | rfl | rfl | rfl | rfl | rfl | rfl | rfl | rfl | rfl | rfl | rfl | rfl | rfl : iq = 0 ∨ iq = 1 ∨ iq = 2 ∨ iq = 3 ∨ iq = 4 ∨ iq = 5 ∨ iq = 6 ∨ iq = 7 ∨ iq = 8 ∨ iq = 9 ∨ iq = 10 ∨ iq = 11 ∨ iq = 12 ∨ iq = 13 ∨ iq = 14 ∨ iq = 15 ∨ iq = 16 ∨ iq = 17 ∨ iq = 18 ∨ iq = 19 ∨ iq = 20 := by omega
      · clear hiq
        clear hk
        refine ⟨_, rfl, rfl, rfl, wp_value (v := .pointer (some ⟨w.heap.size, 0, none⟩)) (w' := W) ?_ ⟨_, rfl, Below.refl _ _, rfl⟩⟩
        go_simp
      · clear hiq
        have e0 : a.eval (.tmp 24) = .pointer (some ⟨w.heap.size, 0, none⟩) := hk 0 (mem_of (by kernel_rfl))
        have f0 := ev e0
        have hc : W.cell? ⟨w.heap.size, 0, none⟩ = some (.slice p xs.length c) := cell_of_row W _ 0 _ _ _ hx3
        clear hk
        refine ⟨_, rfl, rfl, rfl, wp_value (v := .slice p xs.length c) (w' := W) ?_ ⟨_, rfl, Below.refl _ _, rfl⟩⟩
        go_simp
      · clear hiq
        clear hk
        refine ⟨_, rfl, rfl, rfl, wp_value (v := .int .i64 (i : Int)) (w' := W) ?_ ⟨_, rfl, Below.refl _ _, rfl⟩⟩
        go_simp
      · clear hiq
        clear hk
        refine ⟨_, rfl, rfl, rfl, wp_value (v := .int .i64 (i : Int)) (w' := W) ?_ ⟨_, rfl, Below.refl _ _, rfl⟩⟩
        go_simp
      · clear hiq
        clear hk
        refine ⟨_, rfl, rfl, rfl, wp_value (v := .pointer (some ⟨w.heap.size + 1, 0, none⟩)) (w' := W) ?_ ⟨_, rfl, Below.refl _ _, rfl⟩⟩
        go_simp
      · clear hiq
        have e4 : a.eval (.tmp 28) = .pointer (some ⟨w.heap.size + 1, 0, none⟩) := hk 4 (mem_of (by kernel_rfl))
        have f4 := ev e4
        have hc : W.cell? ⟨w.heap.size + 1, 0, none⟩ = some (.slice (some ⟨kb, ko, none⟩) (its h kid).length kc) := cell_of_row W _ 0 _ _ _ hx5
        clear hk
        refine ⟨_, rfl, rfl, rfl, wp_value (v := .slice (some ⟨kb, ko, none⟩) (its h kid).length kc) (w' := W) ?_ ⟨_, rfl, Below.refl _ _, rfl⟩⟩
        go_simp
      · clear hiq
        clear hk
        refine ⟨_, rfl, rfl, rfl, wp_value (v := .int .i64 (m : Int)) (w' := W) ?_ ⟨_, rfl, Below.refl _ _, rfl⟩⟩
        go_simp
      · clear hiq
        have e5 : a.eval (.tmp 29) = .slice (some ⟨kb, ko, none⟩) (its h kid).length kc := hk 5 (mem_of (by kernel_rfl))
        have f5 := ev e5
        have e6 : a.eval (.tmp 30) = .int .i64 (m : Int) := hk 6 (mem_of (by kernel_rfl))
        have f6 := ev e6
        clear hk
        refine ⟨_, rfl, rfl, rfl, wp_value (v := .pointer (some ⟨kb, ko + m * 2, none⟩)) (w' := W) ?_ ⟨_, rfl, Below.refl _ _, rfl⟩⟩
        go_simp
      · clear hiq
        have e7 : a.eval (.tmp 31) = .pointer (some ⟨kb, ko + m * 2, none⟩) := hk 7 (mem_of (by kernel_rfl))
        have f7 := ev e7
        have k1 := (cell_later hb kbl).trans kc1
        have k2 := (cell_later hb kbl).trans kc2
        clear hk
        refine ⟨_, rfl, rfl, rfl, wp_value (v := .agg #[.string ((its h kid)[m]!).1, .string ((its h kid)[m]!).2]) (w' := W) ?_ ⟨_, rfl, Below.refl _ _, rfl⟩⟩
        go_simp
      · clear hiq
        have e8 : a.eval (.tmp 32) = .agg #[.string ((its h kid)[m]!).1, .string ((its h kid)[m]!).2] := hk 8 (mem_of (by kernel_rfl))
        have f8 := ev e8
        clear hk
        refine ⟨_, rfl, rfl, rfl, wp_value (v := .slice (some ⟨W.heap.size, 0, none⟩) 1 1) (w' := W.alloc (.cells #[.string ((its h kid)[m]!).1, .string ((its h kid)[m]!).2] 66)) ?_ ⟨_, rfl, (Below.refl _ _).alloc (Nat.le_refl _) _, ⟨_, _, rfl, Sl.one_item W ((its h kid)[m]!) 66⟩⟩⟩
        go_simp
      · clear hiq
        have e1 : a.eval (.tmp 25) = .slice p xs.length c := hk 1 (mem_of (by kernel_rfl))
        have f1 := ev e1
        have e2 : a.eval (.tmp 26) = .int .i64 (i : Int) := hk 2 (mem_of (by kernel_rfl))
        have f2 := ev e2
        have e3 : a.eval (.tmp 27) = .int .i64 (i : Int) := hk 3 (mem_of (by kernel_rfl))
        have f3 := ev e3
        obtain ⟨p9, c9, e9, s9x⟩ := show SlV 1 (itC [((its h kid)[m]!)]) (a.eval (.tmp 33)) W from hk 9 (mem_of (by kernel_rfl))
        have f9 := ev e9
        clear hk
        refine ⟨_, rfl, rfl, rfl, wp_enter (f := 34) (args := #[.slice p xs.length c, .int .i64 (i : Int), .int .i64 (i : Int), .slice p9 1 c9]) ?_ ((hr10 W hb p9 c9 s9x).mono ?_)⟩
        · go_simp
        · rintro e w2 ⟨p2x, c2x, rfl, hs2, hb2⟩
          exact ⟨_, rfl, _, rfl, hb2, ⟨_, _, rfl, hs2⟩⟩
      · clear hiq
        clear hk
        refine ⟨_, rfl, rfl, rfl, wp_value (v := .pointer (some ⟨w.heap.size, 1, none⟩)) (w' := W) ?_ ⟨_, rfl, Below.refl _ _, rfl⟩⟩
        go_simp
      · clear hiq
        have e11 : a.eval (.tmp 35) = .pointer (some ⟨w.heap.size, 1, none⟩) := hk 11 (mem_of (by kernel_rfl))
        have f11 := ev e11
        have hc : W.cell? ⟨w.heap.size, 1, none⟩ = some (.slice q ts.length d) := cell_of_row W _ 1 _ _ _ hx3
        clear hk
        refine ⟨_, rfl, rfl, rfl, wp_value (v := .slice q ts.length d) (w' := W) ?_ ⟨_, rfl, Below.refl _ _, rfl⟩⟩
        go_simp
      · clear hiq
        clear hk
        refine ⟨_, rfl, rfl, rfl, wp_value (v := .int .i64 (i : Int)) (w' := W) ?_ ⟨_, rfl, Below.refl _ _, rfl⟩⟩
        go_simp
      · clear hiq
        clear hk
        refine ⟨_, rfl, rfl, rfl, wp_value (v := .int .i64 (i : Int)) (w' := W) ?_ ⟨_, rfl, Below.refl _ _, rfl⟩⟩
        go_simp
      · clear hiq
        have e14 : a.eval (.tmp 38) = .int .i64 (i : Int) := hk 14 (mem_of (by kernel_rfl))
        have f14 := ev e14
        clear hk
        refine ⟨_, rfl, rfl, rfl, wp_value (v := .int .i64 ((i : Int) + 1)) (w' := W) ?_ ⟨_, rfl, Below.refl _ _, rfl⟩⟩
        go_simp
        rw [IntKind.wrap_i64]; omega
      · clear hiq
        clear hk
        refine ⟨_, rfl, rfl, rfl, wp_load_row 59 (.tmp 8) rfl (g8) hp8 59 #[.slice pl nl cl, .slice ql ml dl] (0, 0) _ hx8 Try.underlying59 rfl (by kernel_rfl) ?_⟩
        exact ⟨_, rfl, Below.refl _ _, rfl⟩
      · clear hiq
        clear hk
        refine ⟨_, rfl, rfl, rfl, wp_load_row 59 (.tmp 9) rfl (g9) hp9 59 #[.slice pr nr cr, .slice qr mr dr] (0, 0) _ hx9 Try.underlying59 rfl (by kernel_rfl) ?_⟩
        exact ⟨_, rfl, Below.refl _ _, rfl⟩
      · clear hiq
        have e16 : a.eval (.tmp 40) = .agg #[.slice pl nl cl, .slice ql ml dl] := hk 16 (mem_of (by kernel_rfl))
        have f16 := ev e16
        have e17 : a.eval (.tmp 41) = .agg #[.slice pr nr cr, .slice qr mr dr] := hk 17 (mem_of (by kernel_rfl))
        have f17 := ev e17
        clear hk
        refine ⟨_, rfl, rfl, rfl, wp_value (v := .slice (some ⟨W.heap.size, 0, none⟩) 2 2) (w' := W.alloc (.cells #[Value.slice pl nl cl, Value.slice ql ml dl, Value.slice pr nr cr, Value.slice qr mr dr] 59)) ?_ ⟨_, rfl, (Below.refl _ _).alloc (Nat.le_refl _) _, ⟨_, _, rfl, Sl.two W 59 _ _ _ _ rfl rfl rfl rfl⟩⟩⟩
        go_simp
      · clear hiq
        have e12 : a.eval (.tmp 36) = .slice q ts.length d := hk 12 (mem_of (by kernel_rfl))
        have f12 := ev e12
        have e13 : a.eval (.tmp 37) = .int .i64 (i : Int) := hk 13 (mem_of (by kernel_rfl))
        have f13 := ev e13
        have e15 : a.eval (.tmp 39) = .int .i64 ((i : Int) + 1) := hk 15 (mem_of (by kernel_rfl))
        have f15 := ev e15
        obtain ⟨p18, c18, e18, s18x⟩ := show SlV 2 [Value.slice pl nl cl, Value.slice ql ml dl, Value.slice pr nr cr, Value.slice qr mr dr] (a.eval (.tmp 42)) W from hk 18 (mem_of (by kernel_rfl))
        have f18 := ev e18
        clear hk
        refine ⟨_, rfl, rfl, rfl, wp_enter (f := 45) (args := #[.slice q ts.length d, .int .i64 (i : Int), .int .i64 ((i : Int) + 1), .slice p18 2 c18]) ?_ ((hr19 W hb p18 c18 s18x).mono ?_)⟩
        · go_simp
        · rintro e w2 ⟨p2x, c2x, rfl, hs2, hb2⟩
          exact ⟨_, rfl, _, rfl, hb2, ⟨_, _, rfl, hs2⟩⟩
      · clear hiq
        obtain ⟨p10, c10, e10, s10x⟩ := show SlV (i + 1 + (xs.length - i)) ((itC xs).take (i * 2) ++ itC [((its h kid)[m]!)] ++ (itC xs).drop (i * 2)) (a.eval (.tmp 34)) W from hk 10 (mem_of (by kernel_rfl))
        have f10 := ev e10
        obtain ⟨p19, c19, e19, s19x⟩ := show SlV (i + 2 + (ts.length - (i + 1))) (L.take (i * 2) ++ [Value.slice pl nl cl, Value.slice ql ml dl, Value.slice pr nr cr, Value.slice qr mr dr] ++ L.drop ((i + 1) * 2)) (a.eval (.tmp 43)) W from hk 19 (mem_of (by kernel_rfl))
        have f19 := ev e19
        clear hk
        refine ⟨_, rfl, rfl, rfl, wp_value (v := .agg #[.slice p10 (i + 1 + (xs.length - i)) c10, .slice p19 (i + 2 + (ts.length - (i + 1))) c19]) (w' := W) ?_ ⟨_, rfl, Below.refl _ _, ⟨_, _, _, _, rfl, s10x, s19x⟩⟩⟩
        go_simp
    case post =>
      intro V W hbW hV
      obtain ⟨p', c', q', d', ev, hs1, hs2⟩ : Nd2V (i + 1 + (xs.length - i)) ((itC xs).take (i * 2) ++ itC [((its h kid)[m]!)] ++ (itC xs).drop (i * 2)) (i + 2 + (ts.length - (i + 1))) (L.take (i * 2) ++ [Value.slice pl nl cl, Value.slice ql ml dl, Value.slice pr nr cr, Value.slice qr mr dr] ++ L.drop ((i + 1) * 2)) (V 20) W := hV 20 (by omega)
      clear hV hr10 hr19
      simp only [putAll, Nat.reduceAdd]
      rw [ev]
      simp only [Act.put, List.setIfInBounds_toArray, List.set_cons_zero, List.set_cons_succ]
      have q2 := (hbW.block _ (lt_of_row t2)).trans t2
      have x0 := cell_of_row W _ 0 _ _ _ q2
      have x1 := cell_of_row W _ 1 _ _ _ q2
      have f0 := frozen_of_row W _ 0 _ _ q2
      have f1 := frozen_of_row W _ 1 _ _ q2
      have hBW : Below w.heap.size w W := hB4.trans (hbW.mono hB4.size)
      have HKL : Hid (LiesL W h (ts.take i ++ [lft, rgt] ++ ts.drop (i + 1)) (L.take (i * 2) ++ [Value.slice pl nl cl, Value.slice ql ml dl, Value.slice pr nr cr, Value.slice qr mr dr] ++ L.drop ((i + 1) * 2))) := (((hL.take i).later hBW).app (((LiesL.one E2).app (LiesL.one E9)).later hbW)).app ((hL.drop (i + 1)).later hBW)
      have HI : Hid (((itC xs).take (i * 2) ++ itC [((its h kid)[m]!)] ++ (itC xs).drop (i * 2)) = itC (xs.take i ++ [((its h kid)[m]!)] ++ xs.drop i)) := by
        have h : ((itC xs).take (i * 2) ++ itC [((its h kid)[m]!)] ++ (itC xs).drop (i * 2)) = itC (xs.take i ++ [((its h kid)[m]!)] ++ xs.drop i) := by rw [itC_app, itC_app, itC_take, itC_drop]
        exact h
      obtain ⟨LK, hLK⟩ : ∃ LK, (L.take (i * 2) ++ [Value.slice pl nl cl, Value.slice ql ml dl, Value.slice pr nr cr, Value.slice qr mr dr] ++ L.drop ((i + 1) * 2)) = LK := ⟨_, rfl⟩
      obtain ⟨LI, hLI⟩ : ∃ LI, ((itC xs).take (i * 2) ++ itC [((its h kid)[m]!)] ++ (itC xs).drop (i * 2)) = LI := ⟨_, rfl⟩
      rw [hLK] at hs2 HKL
      rw [hLI] at hs1 HI
      obtain ⟨n1, hn1⟩ : ∃ n1, (i + 1 + (xs.length - i)) = n1 := ⟨_, rfl⟩
      obtain ⟨n2, hn2⟩ : ∃ n2, (i + 2 + (ts.length - (i + 1))) = n2 := ⟨_, rfl⟩
      rw [hn1] at hs1 ⊢
      rw [hn2] at hs2 ⊢
      clear hLK hLI hn1 hn2 ev t0 t1 t2 t8 t9 kc1 kc2 kc10 kc20 E2 E9
      go_wp2
      refine bodyPost_ret (results_cell_row Try.results37 _ _ (w.heap.size + 1 + 1) 59 _ (0, 0) _ rfl (set2_row q2 _ _) Try.underlying59 rfl (by kernel_rfl)) rfl ⟨_, rfl, ?_, ?_⟩
      · rw [HI.out] at hs1
        rw [HLF.out, HRF.out]
        exact Lies.make (hs1.kept q2 (set2_size _ _ _ _) (set2_other _ _ _ _) (fun u hu hm => by
          obtain ⟨st, rfl⟩ := itC_head hu
          simp at hm)) (hs2.kept q2 (set2_size _ _ _ _) (set2_other _ _ _ _) (HKL.out.head HOK.out.2.2)) (HKL.out.kept q2 (set2_size _ _ _ _) (set2_other _ _ _ _) (fun t ht => (HOK.out.2.2 t ht).1))
      · exact below_set2 hBW (by omega) _ _
end Go.Proofs.Ytiplmlalhmldbaa
