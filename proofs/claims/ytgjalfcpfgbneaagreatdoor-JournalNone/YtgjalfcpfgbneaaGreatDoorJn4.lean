/- The records of two bodies (framed). -/
import Derived.Test.YtgjalfcpfgbneaaGreatDoorJn3
import Derived.Test.YtgjalfcpfgbneaaGreatDoorVBuild
namespace Go.Proofs.YtgjalfcpfgbneaaGreatDoor
open Go.RowKit Go.Shelf
open V (Bld Tame b_len b_text bld_new strC)
theorem info82 : (Tryz.prog.info? 82).map (fun i => (i.zero, i.size, i.bytes)) = some (some (.agg #[.int .i64 0, .int .i64 0, .string ⟨#[]⟩, .bool false]), 4, 40) := by kernel_rfl
def recC (file at_ : Int) (t : ByteArray) : List Value := [.int .i64 file, .int .i64 at_, .string t, .bool true]
def frT (s : ByteArray) : ByteArray := ⟨(F.frameL s.data.toList).toArray⟩
theorem frT_size (s : ByteArray) : (frT s).size = 12 + s.size := by
  show (F.frameL s.data.toList).toArray.size = _
  rw [List.size_toArray, F.frameL_len]
  rfl
theorem bld_kept {w w' : World} {b : Nat} {l : List UInt8} (h : Bld w b l) (hb : ∀ (k : Nat) (cs : Array Value) (t : TypeId) (fr : Nat × Nat), t = 5 ∨ t = 125 → w.heap[k]? = some (Obj.cells cs t fr) → w'.heap[k]? = some (Obj.cells cs t fr)) : Bld w' b l := by
  have key : ∀ p, Lib.BuilderAt 125 5 b b p (strC l) w → Lib.BuilderAt 125 5 b b p (strC l) w' := by
    rintro p ⟨h1, v, h2, h3, h4⟩
    refine ⟨h1, v, hb _ _ _ _ (Or.inr rfl) h2, ?_, h4⟩
    refine ⟨h3.1, ?_⟩
    rcases h3.2 with h5 | ⟨g, cap, cur, h5, h6, h7, h8⟩
    · exact Or.inl h5
    · exact Or.inr ⟨g, cap, cur, h5, h6, hb _ _ _ _ (Or.inl rfl) h7, h8⟩
  rcases h with h | h
  · exact Or.inl (key _ h)
  · exact Or.inr (key _ h)
theorem bld_later {w w' : World} {b : Nat} {l : List UInt8} (h : Bld w b l) (hb : Below w.heap.size w w') : Bld w' b l :=
  bld_kept h (fun k _ _ _ _ hk => (hb.block k (lt_of_row hk)).trans hk)
theorem bld_grown {w w' : World} {b B n : Nat} {l : List UInt8} {v : Value} {xs : List Value} (h : Bld w b l) (hg : w.grownBy w' v.ownBlock) (ho : w.ownsRow B 82 4 v n xs) : Bld w' b l := by
  refine bld_kept h (fun k cs t fr ht hk => ?_)
  rw [← hk]
  refine hg.block k (lt_of_row hk) (fun e => ?_)
  rcases ho.2 with ⟨rfl, _⟩ | ⟨g, cap, cur, rfl, _, hg, _⟩
  · cases e
  · injection e with e
    have e' : k = g := e
    subst e'
    rw [hk] at hg
    injection hg with hg
    injection hg with _ h2 _
    rcases ht with rfl | rfl
    · cases h2
    · cases h2
theorem rec_kept {w w' : World} {base n : Nat} {v : Value} {xs : List Value} (h : w.ownsRow base 82 4 v n xs) (hk : ∀ (k : Nat) (cs : Array Value) (fr : Nat × Nat), w.heap[k]? = some (Obj.cells cs 82 fr) → w'.heap[k]? = some (Obj.cells cs 82 fr)) : w'.ownsRow base 82 4 v n xs := by
  refine ⟨h.1, ?_⟩
  rcases h.2 with h1 | ⟨g, cap, cur, rfl, h2, h3, h4⟩
  · exact Or.inl h1
  · exact Or.inr ⟨g, cap, cur, rfl, h2, hk _ _ _ h3, h4⟩
theorem cell4_new (W : World) (x y z u : Value) (t : TypeId) : ∀ j r, [x, y, z, u][j]? = some r → (W.alloc (.cells #[x, y, z, u] t)).cell? ((⟨W.heap.size, 0, none⟩ : Addr).add j) = some r := by
  intro j r h
  have e : (⟨W.heap.size, 0, none⟩ : Addr).add j = ⟨W.heap.size, j, none⟩ := by unfold Addr.add; split <;> simp_all
  rw [e, cell_of_row _ _ _ _ _ _ (heap_alloc_new W (.cells #[x, y, z, u] t))]
  simpa using h
theorem tame_freeze {w : World} {g : Nat} {cur : Array Value} {fr : Nat × Nat} (hg : w.heap[g]? = some (.cells cur 5 fr)) (n : Nat) : Tame w (w.freeze ⟨g, 0, none⟩ n) := by
  unfold World.freeze
  split
  · exact Tame.refl w
  · refine ⟨by simp, fun k cs t fr' h5 _ hk => ?_⟩
    have hne : g ≠ k := fun e => by
      subst e
      rw [hg] at hk
      injection hk with hk
      injection hk with _ h2 _
      exact h5 h2.symm
    simp only [Array.getElem?_modify]
    rw [if_neg hne]
    exact hk
set_option maxRecDepth 100000 in
set_option maxHeartbeats 4000000 in
theorem b_string2 (b : Nat) (l : List UInt8) (w : World) (h : Bld w b l) (h0 : l ≠ []) :
    Calls Tryz.prog 61 #[.pointer (some ⟨b, 0, none⟩)] w fun e w' => e = .returned (.string ⟨l.toArray⟩) ∧ Below b w w' ∧ Tame w w' := by
  obtain ⟨p, hB, v, hbk, hown, hne⟩ : ∃ p, Lib.BuilderAt 125 5 b b p (strC l) w := by
    rcases h with h | h
    · exact ⟨_, h⟩
    · exact ⟨_, h⟩
  have hl0 : l.length ≠ 0 := by simpa using h0
  rw [show (strC l).length = l.length by simp [strC]] at hown
  obtain ⟨g, cap, cur, rfl, hbg, hg, hnc, hcm, hcs, htake⟩ : ∃ g cap cur, v = .slice (some ⟨g, 0, none⟩) l.length cap ∧ b ≤ g ∧ w.heap[g]? = some (.cells cur 5 (0, 0)) ∧ l.length ≤ cap ∧ cap ≤ maxLen ∧ cur.size = cap * 1 ∧ cur.toList.take (l.length * 1) = strC l := by
    rcases hown.2 with ⟨_, hz⟩ | ⟨g, cap, cur, hv, r⟩
    · exact absurd hz hl0
    · exact ⟨g, cap, cur, hv, r⟩
  have c1 : w.drew.cell? ⟨b, 1, none⟩ = some (.slice (some ⟨g, 0, none⟩) l.length cap) := by
    have : w.drew.heap[b]? = some (.cells #[p, .slice (some ⟨g, 0, none⟩) l.length cap] 125 (0, 0)) := hbk
    rw [Lib.cell_of_heap this]; rfl
  have hSD : (Builtin.unsafeSliceData_ #[65] 148 #[.slice (some ⟨g, 0, none⟩) l.length cap]).run Tryz.prog w.drew = .ok (.pointer (some ⟨g, 0, none⟩)) w.drew :=
    Lib.run_unsafeSliceData_row _ _ _ _ _ _ (by omega)
  have hUS : (Builtin.unsafeString_ #[148, 3] 9 #[.pointer (some ⟨g, 0, none⟩), .int .i64 l.length]).run Tryz.prog w.drew = .ok (.string ⟨l.toArray⟩) (w.drew.freeze ⟨g, 0, none⟩ l.length) := by
    refine Lib.run_unsafeString_row w.drew 148 3 9 5 Tryz.underlying148 V.cells5 g cur.size (by have hg' : w.drew.heap[g]? = some (.cells cur 5 (0, 0)) := hg; simp [World.shape?, hg']) l h0 (by omega) (by unfold maxLen at hcm; omega) ?_
    intro j x hx
    have := hown.cells (g := g) rfl j (.int .u8 x.toNat) (by simp [strC, hx])
    exact this
  go_enter Tryz.func61, Tryz.ntmps61
  go_wp2
  go_region
  all_goals (go_wp2; go_ret; exact ⟨rfl, Lib.below_freeze (Below.drew (Below.refl b w)) (p := ⟨g, 0, none⟩) hbg _, ⟨(tame_freeze (w := w.drew) hg l.length).size, fun k cs t fr h5 h66 hk => (tame_freeze (w := w.drew) hg l.length).block k cs t fr h5 h66 hk⟩⟩)
set_option maxRecDepth 100000 in
set_option maxHeartbeats 4000000 in
theorem framed_two {q c : Nat} (x y : ByteArray) (hx : x.size ≤ 1000) (hy : y.size ≤ 1000) (w : World) (hG : F.GL w) (hq0 : w.cell? ⟨q, 0, none⟩ = some (.string x)) (hq1 : w.cell? ⟨q, 1, none⟩ = some (.string y)) (hlt : q < w.heap.size) :
    Calls Tryz.prog 40 #[.slice (some ⟨q, 0, none⟩) 2 c] w fun e w' => ∃ v, e = .returned (.tuple #[v, .string ⟨((frT x).data.toList ++ (frT y).data.toList).toArray⟩, .int .i64 0]) ∧ w'.ownsRow w.heap.size 82 4 v 2 (recC 0 12 (frT x) ++ recC 0 (12 + (x.size : Int) + 12) (frT y)) ∧ Below w.heap.size w w' := by
  obtain ⟨i0, hi, hz0, hz1, hz2⟩ := info_parts info82
  go_enter Tryz.func40, Tryz.ntmps40
  go_wp2
  obtain ⟨w1, hw1⟩ : ∃ w1, w.alloc (.cells #[.pointer none, .slice none 0 0] 125) = w1 := ⟨_, rfl⟩
  have hb : Below w.heap.size w w1 := by rw [← hw1]; exact (Below.refl _ w).alloc (Nat.le_refl _) _
  have hB1 : Bld w1 w.heap.size [] := by rw [← hw1]; exact bld_new w
  rw [hw1]
  clear hw1
  go_loopw [5, 13] (fun v5 v13 wr => ∃ i : Nat, i ≤ 2 ∧ v13 = .int .i64 (i : Int) ∧ wr.ownsRow w.heap.size 82 4 v5 i (if i = 0 then [] else if i = 1 then recC 0 12 (frT x) else recC 0 12 (frT x) ++ recC 0 (12 + (x.size : Int) + 12) (frT y)) ∧ Bld wr w.heap.size (if i = 0 then [] else if i = 1 then (frT x).data.toList else (frT x).data.toList ++ (frT y).data.toList) ∧ Below w.heap.size w wr) (fun _ v13 _ => 2 - (intOf v13).toNat)
  case atStart => exact ⟨0, by omega, rfl, World.ownsRow_nil _ _ _ _, hB1, hb⟩
  case round =>
    clear hb hB1
    obtain ⟨i, hi2, rfl, hown, hB, hbr⟩ := hrel
    obtain rfl | rfl | rfl : i = 0 ∨ i = 1 ∨ i = 2 := by omega
    · have hcS : wr.cell? ⟨q, 0, none⟩ = some (.string x) := (World.cell?_of_block (a := ⟨q, 0, none⟩) (hbr.block q hlt)).trans hq0
      have hGr : F.GL wr := hG.later rfl hbr
      have km := F.make_any x (by omega) wr hGr
      have hfs := frT_size x
      have hfx := frT_size x
      go_wp2_with fail
      refine km.mono ?_
      rintro e w2 ⟨rfl, hb2⟩
      change Below wr.heap.size wr w2 at hb2
      have B2 : Bld w2 w.heap.size ([]) := bld_later hB hb2
      have o2 : w2.ownsRow w.heap.size 82 4 _ 0 ([]) := rec_kept hown (fun k _ _ hk => (hb2.block k (lt_of_row hk)).trans hk)
      have hbw2 : Below w.heap.size w w2 := hbr.trans (hb2.mono hbr.size)
      have kl := b_len w.heap.size _ w2 B2
      have hsz2 := hbw2.size
      have hc4 := cell4_new w2 (.int .i64 0) (.int .i64 (12)) (.string (frT x)) (.bool true) 82
      clear km hB hown
      go_wp2_with fail
      refine kl.mono ?_
      rintro e w3 ⟨rfl, rfl⟩
      go_wp2_with (first
        | (at_builtin; refine wpList_append_own _ rfl _ _ 70 rfl w.heap.size 82 i0 _ 4 40 Tryz.underlying70 hi hz0 hz1 hz2 rfl (by decide) _ _ _ rfl (o2.alloc _) ⟨w3.heap.size, 0, none⟩ 1 1 [.int .i64 0, .int .i64 (12), .string (frT x), .bool true] rfl rfl hc4 (by simp [Value.oneCell']) (by unfold maxLen; omega) (by omega) (by simp; omega) ?_; intro v' w5 hown' hg5 hnil5; obtain ⟨qq, cc, rfl⟩ := ownsRow_succ hown')
        | fail)
      have hga := (Below.refl w3.heap.size w3).alloc (Nat.le_refl _) (.cells #[.int .i64 0, .int .i64 (12), .string (frT x), .bool true] 82)
      have B5 : Bld w5 w.heap.size ([]) := bld_grown (bld_later B2 hga) hg5 (o2.alloc _)
      have hb5 : Below w.heap.size w w5 := (hbw2.alloc hbw2.size _).grown hg5 (by simp; omega) (fun k hk => (o2.lt k hk).1)
      have kt := b_text w.heap.size _ (frT x) w5 B5 (by simp) (by omega)
      clear kl B2 o2 hc4
      go_wp2_with fail
      refine kt.mono ?_
      rintro e w6 ⟨rfl, B6, hb6, t6⟩
      go_wp2
      go_roundw
      case rel =>
        refine ⟨0 + 1, by omega, by go_num, rec_kept hown' (fun k cs fr hk => t6.block k cs 82 fr (by decide) (by decide) hk), ?_, hb5.trans hb6⟩
        simpa using B6
      case measure => simp [intOf]
    · have hcS : wr.cell? ⟨q, 1, none⟩ = some (.string y) := (World.cell?_of_block (a := ⟨q, 1, none⟩) (hbr.block q hlt)).trans hq1
      have hGr : F.GL wr := hG.later rfl hbr
      have km := F.make_any y (by omega) wr hGr
      have hfs := frT_size y
      have hfx := frT_size x
      go_wp2_with fail
      refine km.mono ?_
      rintro e w2 ⟨rfl, hb2⟩
      change Below wr.heap.size wr w2 at hb2
      have B2 : Bld w2 w.heap.size ((frT x).data.toList) := bld_later hB hb2
      have o2 : w2.ownsRow w.heap.size 82 4 _ 1 (recC 0 12 (frT x)) := rec_kept hown (fun k _ _ hk => (hb2.block k (lt_of_row hk)).trans hk)
      have hbw2 : Below w.heap.size w w2 := hbr.trans (hb2.mono hbr.size)
      have kl := b_len w.heap.size _ w2 B2
      have hsz2 := hbw2.size
      have hc4 := cell4_new w2 (.int .i64 0) (.int .i64 (12 + (x.size : Int) + 12)) (.string (frT y)) (.bool true) 82
      clear km hB hown
      go_wp2_with fail
      refine kl.mono ?_
      rintro e w3 ⟨rfl, rfl⟩
      go_wp2_with (first
        | (at_builtin; refine wpList_append_own _ rfl _ _ 70 rfl w.heap.size 82 i0 _ 4 40 Tryz.underlying70 hi hz0 hz1 hz2 rfl (by decide) _ _ _ rfl (o2.alloc _) ⟨w3.heap.size, 0, none⟩ 1 1 [.int .i64 0, .int .i64 (12 + (x.size : Int) + 12), .string (frT y), .bool true] rfl rfl hc4 (by simp [Value.oneCell']) (by unfold maxLen; omega) (by omega) (by simp; omega) ?_; intro v' w5 hown' hg5 hnil5; obtain ⟨qq, cc, rfl⟩ := ownsRow_succ hown')
        | fail)
      have hga := (Below.refl w3.heap.size w3).alloc (Nat.le_refl _) (.cells #[.int .i64 0, .int .i64 (12 + (x.size : Int) + 12), .string (frT y), .bool true] 82)
      have B5 : Bld w5 w.heap.size ((frT x).data.toList) := bld_grown (bld_later B2 hga) hg5 (o2.alloc _)
      have hb5 : Below w.heap.size w w5 := (hbw2.alloc hbw2.size _).grown hg5 (by simp; omega) (fun k hk => (o2.lt k hk).1)
      have kt := b_text w.heap.size _ (frT y) w5 B5 (by simp; omega) (by omega)
      clear kl B2 o2 hc4
      go_wp2_with fail
      refine kt.mono ?_
      rintro e w6 ⟨rfl, B6, hb6, t6⟩
      go_wp2
      go_roundw
      case rel =>
        refine ⟨1 + 1, by omega, by go_num, rec_kept hown' (fun k cs fr hk => t6.block k cs 82 fr (by decide) (by decide) hk), ?_, hb5.trans hb6⟩
        simpa using B6
      case measure => simp [intOf]
    · have ks := b_string2 w.heap.size ((frT x).data.toList ++ (frT y).data.toList) wr hB (by
        intro e
        have e2 := (List.append_eq_nil_iff.1 e).1
        have e3 : (frT x).data.toList.length = (frT x).size := rfl
        have e4 := frT_size x
        rw [e2] at e3
        simp at e3
        omega)
      obtain ⟨pp, cc, rfl⟩ := ownsRow_succ hown
      go_wp2_with fail
      refine ks.mono ?_
      rintro e w2 ⟨rfl, hb2, t2⟩
      go_wp2
      refine bodyPost_ret (v := .tuple #[.slice (some ⟨pp, 0, none⟩) 2 cc, .string ⟨((frT x).data.toList ++ (frT y).data.toList).toArray⟩, .int .i64 0]) (by simp [results, Tryz.results40, go_sem]) rfl ⟨_, rfl, ?_, hbr.trans hb2⟩
      exact rec_kept hown (fun k cs fr hk => t2.block k cs 82 fr (by decide) (by decide) hk)
end Go.Proofs.YtgjalfcpfgbneaaGreatDoor
