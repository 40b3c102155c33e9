/- A map of texts to lists: what is found in it (Mf); and the laws' awake. -/
import Derived.Test.YtcniebkehekliaaGreatDoorStc
import Derived.Maps.OwnSet
import Derived.Maps.Views
import Derived.Maps.Keyed
import Derived.BigFrame
namespace Go.Proofs.YtcniebkehekliaaGreatDoor
open Go.RowKit Go.Shelf
attribute [local go_sem] Oper.semAt_some
def heldR (v : Value) : Option (DataW Value × List MemPlace) := some (.held v, [])
theorem keyed9 : Maps.Keyed Tryz.prog 9 := Maps.string_keyed Tryz.underlying9
theorem zero23 (w : World) : (zeroValue 23).run Tryz.prog w = .ok (.slice none 0 0) w := by kernel_rfl
theorem key9 {s : ByteArray} (h : s.size ≤ maxLen) : keyOf Tryz.prog 9 (.string s) = some (.string s.data.toList)   := WideMaps.keyOf_string_mk Tryz.underlying9 h
structure Mf (w : World) (b n : Nat) (F : List UInt8 → Option Value) : Prop where
  ex : ∃ D, w.ownsMap Tryz.prog 9 heldR b n D ∧ Maps.IsMap D ∧ ∀ s, Maps.has D (.string s) = (F s).isSome ∧ ∀ z, D.atKey (.string s) (.held z) = .held ((F s).getD z)
theorem Mf.made (w : World) : Mf (w.alloc (.map #[] 0)) w.heap.size 0 (fun _ => none) := ⟨.map [], World.ownsMap_made w _ _ _, ⟨_, rfl⟩, fun _ => ⟨rfl, fun _ => rfl⟩⟩
theorem Mf.lt {w : World} {b n : Nat} {F : List UInt8 → Option Value} (h : Mf w b n F) : b < w.heap.size := by
  obtain ⟨D, h1, -⟩ := h.ex
  exact h1.lt
theorem Mf.later {w w' : World} {b n : Nat} {F : List UInt8 → Option Value} (h : Mf w b n F) (hb : Below w.heap.size w w') : Mf w' b n F := by
  obtain ⟨D, h1, h2⟩ := h.ex
  exact ⟨D, h1.kept (row := none) ⟨hb.os, hb.tape, hb.output, hb.size, fun k hk _ => hb.block k hk⟩ (by simp), h2⟩
theorem Mf.look {w : World} {b n : Nat} {F : List UInt8 → Option Value} (h : Mf w b n F) {s : ByteArray} (hs : s.size ≤ maxLen) : (Instr.lookup 48 (.map (some b)) (.string s) true).run Tryz.prog w = .ok (.tuple #[(F s.data.toList).getD (.slice none 0 0), .bool (F s.data.toList).isSome]) w := by
  obtain ⟨D, h1, -, h3⟩ := h.ex
  obtain ⟨v, ps, hr, hv⟩ := h1.look_ok keyed9 Tryz.underlying48 (zero23 w) (R := heldR) (zd := .held (.slice none 0 0)) (zp := []) rfl (key9 hs)
  rw [(h3 _).2] at hv
  have e : v = (F s.data.toList).getD (.slice none 0 0) := by
    simp only [heldR, Option.some.injEq, Prod.mk.injEq, DataW.held.injEq] at hv
    exact hv.1
  rw [hr, e, (h3 _).1]
theorem Mf.put {w : World} {b n : Nat} {F : List UInt8 → Option Value} (h : Mf w b n F) (hn : n < maxLen) {s : ByteArray} (hs : s.size ≤ maxLen) (v : Value) : ∃ w', (Instr.mapUpdate 48 (.map (some b)) (.string s) v).run Tryz.prog w = .ok () w' ∧ Mf w' b (n + 1) (fun k => if k = s.data.toList then some v else F k) ∧ w.grownBy w' (some b) := by
  obtain ⟨D, h1, h2, h3⟩ := h.ex
  obtain ⟨w', hr, ho, hg⟩ := h1.update keyed9 Tryz.underlying48 hn (key9 hs) (R := heldR) (val := v) rfl
  refine ⟨w', hr, ⟨D.put (.string s.data.toList) (.held v), ho, ?_, fun k => ?_⟩, hg⟩
  · obtain ⟨es, rfl⟩ := h2
    exact ⟨_, rfl⟩
  · by_cases hk : k = s.data.toList
    · subst hk
      simp only [if_true]
      exact ⟨Maps.has_put_same h2 (k := Lit.string s.data.toList) (by exact trivial) _, fun z => Maps.atKey_put_same h2 (k := Lit.string s.data.toList) (by exact trivial) _ _⟩
    · simp only [if_neg hk]
      have hne : (Lit.string k) ≠ .string s.data.toList := fun e => hk (by injection e)
      rw [Maps.has_put_other hne]
      refine ⟨(h3 k).1, fun z => ?_⟩
      rw [Maps.atKey_put_other hne]
      exact (h3 k).2 z
theorem Qx.imp {w : World} {R S : Nat → Prop} {Q : QR} {M : Sm} (hab : ∀ k, S k → k < w.heap.size → R k) (h : Qx w S Q M) : Qx w R Q M := by
  obtain ⟨d1, h1⟩ := h.v
  obtain ⟨d2, h2⟩ := h.wh
  obtain ⟨e, K, d, h3, h4⟩ := h.ex
  exact ⟨h.k, h.t, h.f, ⟨d1, h1.imp hab⟩, ⟨h.nm.1, h.nm.2.imp hab⟩, ⟨e, K, d, h3.imp hab, fun i hi => (h4 i hi).imp hab⟩, ⟨d2, h2.imp hab⟩, ⟨h.cl.1, h.cl.2.imp hab⟩⟩
/- Where a text stands among a map's, and where none does. -/
theorem Mf.there {w W : World} {b n : Nat} {F : List UInt8 → Option Value} (h : Mf w b n F) (hW : Below w.heap.size w W) {t : ByteArray} (ht : t.size ≤ maxLen) {fp : Option Addr} {fn fc : Nat} {y : Bool} (hF : (F t.data.toList).getD (.slice none 0 0) = .slice fp fn fc ∧ (F t.data.toList).isSome = y) :
    (Instr.lookup 48 (.map (some b)) (.string t) true).run Tryz.prog W = .ok (.tuple #[.slice fp fn fc, .bool y]) W := by
  rw [(h.later hW).look ht, hF.1, hF.2]
def awL : List UInt8 := [68, 69, 76, 69, 84, 69, 32, 70, 82, 79, 77, 32, 116, 32, 87, 72, 69, 82, 69, 32, 97, 32, 43, 32, 39, 120, 39, 32, 61, 32, 49]
theorem aw0 : (parF awL).2.2 = 0 := by decide +kernel
theorem aw1 : (parF awL).1.k = 5 := by decide +kernel
theorem aw2 : (parF awL).1.t.data.toList = [116] := by decide +kernel
theorem aw4 : ((parF awL).1.wh []).n = 2 ∧ ((parF awL).1.wh [0]).n = 2 ∧ ((parF awL).1.wh []).k = 6 := by decide +kernel
theorem aw5 : (parF awL).2.1 = 0 := by decide +kernel
theorem aw3 (d : Nat) : kndF (d + 3) (parF awL).1.wh true = (0, 131) := by kernel_rfl
theorem aw6 {w : World} {S : Nat → Prop} {d : Nat} {v : Value} (h : LiesE w S d (parF awL).1.wh v) : whE d (parF awL).1.wh = 131 := by
  have h3 : ∃ e, d = e + 3 := by
    cases d with
    | zero => exact h.elim
    | succ d =>
      obtain ⟨_, _, _, _, _, _, _, _, hk⟩ := h
      have k0 := hk 0 (by rw [aw4.1]; decide)
      cases d with
      | zero => exact k0.elim
      | succ d =>
        obtain ⟨_, _, _, _, _, _, _, _, hk2⟩ := k0
        have k1 := hk2 0 (by
          have : ((parF awL).1.wh.sub 0 []).n = 2 := aw4.2.1
          rw [this]; decide)
        cases d with
        | zero => exact k1.elim
        | succ d => exact ⟨d, rfl⟩
  obtain ⟨e, rfl⟩ := h3
  unfold whE
  rw [aw3, if_neg (by rw [aw4.2.2]; decide)]
  rfl
theorem make48 (w : World) : (Instr.makeMap 48 none).run Tryz.prog w = .ok (.map (some w.heap.size)) (w.alloc (.map #[] 0)) := by kernel_rfl
theorem wpList_getG {ops : Array Oper} {rest : List Oper} {op : Oper} {a : Act} {w : World} {Q : Exit → Act → World → Prop} (hw : Region.wanted op (yielded ops a.tmps) = true) (ty : TypeId) (x : Operand) (ho : op.op = .load ty x)
    {z : Nat} {cs : Array Value} {t : TypeId} (hx : a.eval x = .pointer (some ⟨z, 0, none⟩)) (h0 : w.heap[z]? = some (.cells cs t (0, 0))) {d : TypeDesc} (hu : Tryz.prog.underlying ty = some d) (hd : d.isRow = true) (hi : (Tryz.prog.info? ty).map (·.size) = some cs.size)
    (h : wpList Tryz.prog ops Q rest (a.put op.dst (.agg cs)) w) : wpList Tryz.prog ops Q (op :: rest) a w := by
  refine BigFrame.wpList_want hw fun _ hK => wp_load_mid ty x ho z 0 hx cs.toList d (fun j v hv => by rw [Nat.zero_add, cell_of_row w z j cs t _ h0]; simpa using hv) hu hd (by simpa using hi) (hK _ _ ?_)
  simpa using h
theorem qr_ones (Q : QR) : (qrA Q).all (·.oneCell') = true := by simp [qrA, Value.oneCell']
set_option maxRecDepth 100000 in
set_option maxHeartbeats 8000000 in
theorem awake_any (w : World) (he : Ev w) : Calls Tryz.prog 7 #[] w fun r w' => r = .returned (.bool true) ∧ Below w.heap.size w w' := by
  have kp := parse_text ⟨awL.toArray⟩ (by decide) w he
  have e0 : (⟨awL.toArray⟩ : ByteArray).data.toList = awL := rfl
  rw [e0] at kp
  unfold awL at kp
  have kp2 : Calls Tryz.prog 17 #[.string ⟨#[68, 69, 76, 69, 84, 69, 32, 70, 82, 79, 77, 32, 116, 32, 87, 72, 69, 82, 69, 32, 97, 32, 43, 32, 39, 120, 39, 32, 61, 32, 49]⟩] w (GivesP w (parF awL)) := kp
  clear kp e0 he
  go_enter Tryz.func7, Tryz.ntmps7
  go_wp2_with fail
  refine kp2.mono ?_
  rintro q w1 ⟨R, rfl, hx, hb1⟩
  obtain ⟨Q, hQ, hq⟩ := hx.open
  rw [hQ, aw0, aw5]
  obtain ⟨w2, hw2⟩ : ∃ w2, put (w1.alloc (.cells #[.int .i64 0, .string ⟨#[]⟩, .string ⟨#[]⟩, .int .i64 0, .string ⟨#[]⟩, .int .i64 0, .bool false, .int .i64 0, .string ⟨#[]⟩, .slice none 0 0, .slice none 0 0, .slice none 0 0, .slice none 0 0, .slice none 0 0, .slice none 0 0, .int .i64 0, .string ⟨#[]⟩, .int .i64 0, .bool false, .int .i64 0, .string ⟨#[]⟩, .slice none 0 0, .slice none 0 0, .slice none 0 0, .slice none 0 0, .slice none 0 0, .bool false, .bool false, .string ⟨#[]⟩, .bool false, .int .i64 (0)] 30)) w1.heap.size (qrA Q) = w2 := ⟨_, rfl⟩
  have ra : (w1.alloc (.cells #[.int .i64 0, .string ⟨#[]⟩, .string ⟨#[]⟩, .int .i64 0, .string ⟨#[]⟩, .int .i64 0, .bool false, .int .i64 0, .string ⟨#[]⟩, .slice none 0 0, .slice none 0 0, .slice none 0 0, .slice none 0 0, .slice none 0 0, .slice none 0 0, .int .i64 0, .string ⟨#[]⟩, .int .i64 0, .bool false, .int .i64 0, .string ⟨#[]⟩, .slice none 0 0, .slice none 0 0, .slice none 0 0, .slice none 0 0, .slice none 0 0, .bool false, .bool false, .string ⟨#[]⟩, .bool false, .int .i64 (0)] 30)).heap[w1.heap.size]? = some (.cells zero31 30 (0, 0)) := heap_alloc_new _ _
  have hb2 : Below w1.heap.size w1 w2 := by rw [← hw2]; exact put_below ((Below.refl _ w1).alloc (Nat.le_refl _) _) _ (Nat.le_refl _) _
  have r2 : w2.heap[w1.heap.size]? = some (.cells (qrA Q) 30 (0, 0)) := by rw [← hw2]; exact put_row _ ra rfl
  have hmk := make48 w2
  obtain ⟨w3, hw3⟩ : ∃ w3, w2.alloc (.map #[] 0) = w3 := ⟨_, rfl⟩
  rw [hw3] at hmk
  have hb3 : Below w2.heap.size w2 w3 := by rw [← hw3]; exact (Below.refl _ w2).alloc (Nat.le_refl _) _
  have m3 := Mf.made w2
  rw [hw3] at m3
  obtain ⟨w4, hup, m4, hg4⟩ := m3.put (by decide) (s := ⟨#[116]⟩) (by decide) (.slice none 0 0)
  have hB2 : Below w.heap.size w w2 := hb1.trans (hb2.mono hb1.size)
  have hB4 : Below w.heap.size w w4 := (hB2.trans (hb3.mono hB2.size)).grown hg4 (Nat.le_trans hB2.size hb3.size) (fun k hk => by
    injection hk with hk
    have := hB2.size
    omega)
  have l2 := lt_of_row r2
  have r4 : w4.heap[w1.heap.size]? = some (.cells (qrA Q) 30 (0, 0)) := ((hg4.block _ (by have := hb3.size; omega) (fun e => by injection e with e; omega)).trans (hb3.block _ l2)).trans r2
  have hq2 : Qx w2 (fun k => w.heap.size ≤ k) Q (parF awL).1 := hq.since (Since.below hb2)
  have hq3 := hq2.imp (R := fun k => k < w2.heap.size) (fun k _ hl => hl)
  have hQ4 : Qx w4 (fun k => k < w2.heap.size) Q (parF awL).1 := hq3.since ⟨Nat.le_trans hb3.size hg4.size, fun k hk hl => (hg4.block k (by have := hb3.size; omega) (fun e => by injection e with e; omega)).trans (hb3.block k hl)⟩
  have ht1 : Q.t.data.toList = [116] := by rw [hQ4.t]; exact aw2
  have hts : Q.t.size ≤ maxLen := by
    have e1 : Q.t.size = Q.t.data.toList.length := by simp
    rw [e1, ht1]
    decide
  obtain ⟨dw, hwh⟩ := hQ4.wh
  have hk5 : Q.k = 5 := by rw [hQ4.k, aw1]; rfl
  have hgt : Gt (parF awL).1.wh := (par_ok aw0).wh.resolve_left (by rw [aw4.2.2]; decide)
  have ks1 := stmt_delete Q w4 (.map (some w2.heap.size)) none 0 0 (fun W hW => m4.there hW hts (by rw [ht1]; exact ⟨rfl, rfl⟩)) hk5 (X := whE dw (parF awL).1.wh) (fun W hW => cwhere_any (hwh.since (Since.below hW)) (Or.inr (hgt dw)))
  rw [aw6 hwh] at ks1
  have ks2 := fun W (hW : Below w4.heap.size w4 W) => stmt_none Q (W.alloc (.map #[] 0)) (.map (some W.heap.size)) none 0 0 (fun W2 hW2 => (Mf.made W).there hW2 hts ⟨rfl, rfl⟩) (by rw [hk5]; decide)
  have H4 : Hid (Below w.heap.size w w4 ∧ w4.heap[w1.heap.size]? = some (.cells (qrA Q) 30 (0, 0)) ∧ (w1.alloc (.cells #[.int .i64 0, .string ⟨#[]⟩, .string ⟨#[]⟩, .int .i64 0, .string ⟨#[]⟩, .int .i64 0, .bool false, .int .i64 0, .string ⟨#[]⟩, .slice none 0 0, .slice none 0 0, .slice none 0 0, .slice none 0 0, .slice none 0 0, .slice none 0 0, .int .i64 0, .string ⟨#[]⟩, .int .i64 0, .bool false, .int .i64 0, .string ⟨#[]⟩, .slice none 0 0, .slice none 0 0, .slice none 0 0, .slice none 0 0, .slice none 0 0, .bool false, .bool false, .string ⟨#[]⟩, .bool false, .int .i64 (0)] 30)).heap[w1.heap.size]? = some (.cells zero31 30 (0, 0))) := ⟨hB4, r4, ra⟩
  have l4 := lt_of_row r4
  clear kp2 hx hQ hq hb1 hb2 hb3 hg4 hB2 hB4 r4 hq2 hq3 hQ4 ht1 hts hwh hk5 hgt m3 m4 r2 ra hw3 l2
  go_wp2_with (first
    | (refine wpList_put rfl 30 (.tmp 1) (.tmp 6) rfl rfl rfl rfl H4.out.2.2 rfl info30 (qr_ones Q) ?_; rw [hw2])
    | (refine wpList_getG rfl 30 (.tmp 1) rfl rfl H4.out.2.1 Tryz.underlying30 rfl info30 ?_; simp only [Act.put, List.setIfInBounds_toArray, List.set_cons_zero, List.set_cons_succ])
    | fail)
  refine ks1.mono ?_
  rintro q w5 ⟨rfl, hb5⟩
  have k2 := ks2 w5 hb5
  have hmk2 := make48 w5
  obtain ⟨w6, hw6⟩ : ∃ w6, w5.alloc (.map #[] 0) = w6 := ⟨_, rfl⟩
  rw [hw6] at k2 hmk2
  have hb6 : Below w5.heap.size w5 w6 := by rw [← hw6]; exact (Below.refl _ w5).alloc (Nat.le_refl _) _
  have H6 : Hid (Below w.heap.size w w6 ∧ w6.heap[w1.heap.size]? = some (.cells (qrA Q) 30 (0, 0))) := by
    have a1 := H4.out.1.trans (hb5.mono H4.out.1.size)
    exact ⟨a1.trans (hb6.mono a1.size), ((hb6.block _ (Nat.lt_of_lt_of_le l4 hb5.size)).trans (hb5.block _ l4)).trans H4.out.2.1⟩
  clear ks1 ks2 hb5 hb6 hw6 hmk hup hw2
  go_wp2_with (first
    | (refine wpList_getG rfl 30 (.tmp 1) rfl rfl H6.out.2 Tryz.underlying30 rfl info30 ?_; simp only [Act.put, List.setIfInBounds_toArray, List.set_cons_zero, List.set_cons_succ])
    | fail)
  refine k2.mono ?_
  rintro q w7 ⟨rfl, hb7⟩
  have H7 : Hid (Below w.heap.size w w7) := H6.out.1.trans (hb7.mono H6.out.1.size)
  clear k2 hb7
  go_wp2
  go_ret
  exact ⟨rfl, H7.out⟩
end Go.Proofs.YtcniebkehekliaaGreatDoor
