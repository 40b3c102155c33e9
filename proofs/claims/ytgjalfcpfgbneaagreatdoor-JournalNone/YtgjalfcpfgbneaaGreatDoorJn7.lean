/- Two records added to a new journal on a new disk (Add). -/
import Derived.Test.YtgjalfcpfgbneaaGreatDoorJn6
import Derived.Deep.AppendLies
namespace Go.Proofs.YtgjalfcpfgbneaaGreatDoor
open Go.RowKit Go.Shelf
theorem chg_below {S : Nat → Prop} {w w' : World} (h : Below w.heap.size w w') : Chg S w w' := ⟨h.os, h.tape, h.output, h.size, fun k hk _ => h.block k hk⟩
theorem chg_grown {S : Nat → Prop} {w w' : World} {row : Option Nat} (h : w.grownBy w' row) (hr : ∀ k, row = some k → S k ∨ w.heap.size ≤ k) : Chg S w w' :=
  ⟨h.os, h.tape, h.output, h.size, fun k hk hn => h.block k hk (fun e => by rcases hr k e.symm with h1 | h1; exact hn h1; omega)⟩
theorem chg_set {S : Nat → Prop} {w : World} {b o : Nat} {v : Value} (h : S b) : Chg S w (w.setCell ⟨b, o, none⟩ v) := ⟨rfl, rfl, rfl, by simp, fun k _ hn => Below.heap_setCell _ _ _ k (fun e => hn (by rw [e]; exact h))⟩
theorem chg_drew {S : Nat → Prop} {w : World} : Chg S w w.drew := ⟨rfl, rfl, rfl, Nat.le_refl _, fun _ _ _ => rfl⟩
theorem own_same {w w' : World} {base : Nat} {e : TypeId} {size : Nat} {v : Value} {n : Nat} {xs : List Value} (h : w.ownsRow base e size v n xs) (hk : ∀ k, v.ownBlock = some k → w'.heap[k]? = w.heap[k]?) : w'.ownsRow base e size v n xs := by
  refine ⟨h.1, ?_⟩
  rcases h.2 with h1 | ⟨g, cap, cur, rfl, h2, h3, h4⟩
  · exact Or.inl h1
  · exact Or.inr ⟨g, cap, cur, rfl, h2, (hk g rfl).trans h3, h4⟩
set_option maxRecDepth 100000 in
set_option maxHeartbeats 8000000 in
theorem add_two {j d q cq pc : Nat} {most sec : Int} {p : Option Addr} (x y : ByteArray) (hx : x.size ≤ 1000) (hy : y.size ≤ 1000) (w : World) (hG : F.GL w) (hj : Jr w j d most (.slice none 0 0) 0) (hd : Dk w d (.map none) sec 0 0 (.slice p 0 pc) false) (hjd : j ≠ d)
    (hq0 : w.cell? ⟨q, 0, none⟩ = some (.string x)) (hq1 : w.cell? ⟨q, 1, none⟩ = some (.string y)) (hlt : q < w.heap.size) (hroom : secN (((24 + x.size + y.size : Nat) : Int)) ≤ sec) :
    Calls Tryz.prog 16 #[.pointer (some ⟨j, 0, none⟩), .slice (some ⟨q, 0, none⟩) 2 cq] w fun e w' => e = .returned (.tuple #[.int .i64 0, .int .i64 0]) ∧ ∃ (m f g cap base : Nat), Dk w' d (.map (some m)) sec (secN ((24 + x.size + y.size : Nat) : Int)) 2 (.slice p 0 pc) false ∧ Mp w' m 1 (D1 1 (.lit (.int .u64 (f : Int)))) ∧ Fl w' f (.slice (some ⟨g, 0, none⟩) (24 + x.size + y.size) cap) ((24 + x.size + y.size : Nat) : Int) (.map none) ∧
      w'.ownsRow base 5 1 (.slice (some ⟨g, 0, none⟩) (24 + x.size + y.size) cap) (24 + x.size + y.size) (Lib.strCells ⟨((frT x).data.toList ++ (frT y).data.toList).toArray⟩) ∧ (w.heap.size ≤ m ∧ w.heap.size ≤ f ∧ w.heap.size ≤ g ∧ m ≠ f ∧ m ≠ g ∧ f ≠ g) ∧ Chg (fun k => k = d ∨ k = j) w w' := by
  have kf := framed_two (c := cq) x y hx hy w hG hq0 hq1 hlt
  obtain ⟨tx, htx⟩ : ∃ tx : ByteArray, ⟨((frT x).data.toList ++ (frT y).data.toList).toArray⟩ = tx := ⟨_, rfl⟩
  obtain ⟨L, hL⟩ : ∃ L, 24 + x.size + y.size = L := ⟨_, rfl⟩
  have htl : tx.size = L := by
    rw [← htx, ← hL]
    have h1 := frT_size x
    have h2 := frT_size y
    have h3 : (frT x).data.toList.length = (frT x).size := rfl
    have h4 : (frT y).data.toList.length = (frT y).size := rfl
    show ((frT x).data.toList ++ (frT y).data.toList).toArray.size = _
    rw [List.size_toArray, List.length_append]
    omega
  rw [htx] at kf ⊢
  rw [hL] at hroom ⊢
  have hL0 : 0 < L := by omega
  have hLm : L ≤ 3000 := by omega
  have HTL : Hid (tx.size = L) := htl
  have hjlt := lt_of_row hj
  have hdlt := lt_of_row hd
  clear htx hL htl hq0 hq1 hG
  obtain ⟨c0, c1, c2, c3⟩ := hj.cells
  have HJ : Hid (Jr w j d most (.slice none 0 0) 0) := hj
  have HD : Hid (Dk w d (.map none) sec 0 0 (.slice p 0 pc) false) := hd
  have HX : Hid (j ≠ d ∧ secN (L : Int) ≤ sec) := ⟨hjd, hroom⟩
  clear hj hd hjd hroom
  go_enter Tryz.func16, Tryz.ntmps16
  go_wp2_with fail
  refine kf.mono ?_
  rintro e w1 ⟨v6, rfl, ho6, hb1⟩
  obtain ⟨gr, cr, rfl⟩ := ownsRow_succ ho6
  have hj1 : Jr w1 j d most (.slice none 0 0) 0 := (hb1.block _ hjlt).trans HJ.out
  have hd1 : Dk w1 d (.map none) sec 0 0 (.slice p 0 pc) false := (hb1.block _ hdlt).trans HD.out
  have kopen := jopen_new w1 hj1
  have kapp := append_new 1 ⟨by omega, by omega⟩ (by omega) tx (by rw [HTL.out]; omega) (by rw [HTL.out]; omega) (by rw [HTL.out]; exact HX.out.2) w1 hd1
  rw [HTL.out] at kapp
  obtain ⟨c0', c1', c2', c3'⟩ := hj1.cells
  have hz1 := hb1.size
  clear kf c0 c1 c2 c3
  go_wp2_with fail
  refine kopen.mono ?_
  rintro e w1' ⟨rfl, rfl⟩
  clear kopen
  go_wp2_with fail
  refine kapp.mono ?_
  rintro e w2 ⟨rfl, vb, hd2, hm2, hf2, ho2, hc2⟩
  clear kapp c0' c1' c2' c3'
  obtain ⟨g, cap, hvb, hgB, hgl⟩ : ∃ g cap, vb = .slice (some ⟨g, 0, none⟩) L cap ∧ w1'.heap.size + 2 ≤ g ∧ g < w2.heap.size := by
    rcases ho2.2 with ⟨_, hz⟩ | ⟨g, cap, cur, hv, h1, h2, _⟩
    · omega
    · exact ⟨g, cap, hv, h1, lt_of_row h2⟩
  subst hvb
  have hD2 : DataW.atKey (D1 1 (.lit (.int .u64 ((w1'.heap.size + 1 : Nat) : Int)))) (.int .i64 1) .nil = .lit (.int .u64 ((w1'.heap.size + 1 : Nat) : Int)) := at_one _ _
  have ksync := sync_one 1 ⟨by omega, by omega⟩ (by omega) (by omega : d ≠ w1'.heap.size + 1) w2 hd2 hm2 hD2 hf2
  have hj2 : Jr w2 j d most (.slice none 0 0) 0 := (hc2.block _ (by omega) (fun e => HX.out.1 e)).trans hj1
  obtain ⟨c0', c1', c2', c3'⟩ := hj2.cells
  have hz2 := hc2.size
  go_wp2_with fail
  refine ksync.mono ?_
  rintro e w3 ⟨rfl, hd3, hf3, hc3⟩
  have hz3 := hc3.size
  have hj3 : Jr w3 j d most (.slice none 0 0) 0 := (hc3.block _ (by omega) (fun e => by rcases e with e | e; exact HX.out.1 e; omega)).trans hj2
  have hm3 : Mp w3 w1'.heap.size 1 (D1 1 (.lit (.int .u64 ((w1'.heap.size + 1 : Nat) : Int)))) := mp_kept hm2 (hc3.block _ hm2.lt (fun e => by rcases e with e | e <;> omega))
  have ho3 : w3.ownsRow (w1'.heap.size + 2) 5 1 (.slice (some ⟨g, 0, none⟩) L cap) L (Lib.strCells tx) := own_same ho2 (fun k hk => hc3.block k (by have := (ho2.lt k hk).2; omega) (fun e => by have := (ho2.lt k hk).1; omega))
  clear c0' c1' c2' c3' ksync hD2
  obtain ⟨c0', c1', c2', c3'⟩ := hj3.cells
  have hq : ∀ (o : Nat) (v : Value), (recC 0 12 (frT x) ++ recC 0 (12 + (x.size : Int) + 12) (frT y))[o]? = some v → w3.cell? ⟨gr, o, none⟩ = some v := fun o v hv => by
    have hlr := ho6.lt gr rfl
    have h1 : w1'.cell? ⟨gr, o, none⟩ = some v := by
      have := ho6.cells (g := gr) rfl o v hv
      have e : (⟨gr, 0, none⟩ : Addr).add o = ⟨gr, o, none⟩ := by unfold Addr.add; split <;> simp_all
      rwa [e] at this
    have e1 := hc2.block gr hlr.2 (fun e => by omega)
    have e2 := hc3.block gr (by omega) (fun e => by rcases e with e | e <;> omega)
    exact (World.cell?_of_block (a := ⟨gr, o, none⟩) (e2.trans e1)).trans h1
  have HQ0 : Hid (w3.cell? ⟨gr, 0, none⟩ = some (.int .i64 0) ∧ w3.cell? ⟨gr, 1, none⟩ = some (.int .i64 12) ∧ w3.cell? ⟨gr, 2, none⟩ = some (.string (frT x)) ∧ w3.cell? ⟨gr, 3, none⟩ = some (.bool true)) := ⟨hq 0 _ rfl, hq 1 _ rfl, hq 2 _ rfl, hq 3 _ rfl⟩
  have HQ1 : Hid (w3.cell? ⟨gr, 4, none⟩ = some (.int .i64 0) ∧ w3.cell? ⟨gr, 5, none⟩ = some (.int .i64 (12 + (x.size : Int) + 12)) ∧ w3.cell? ⟨gr, 6, none⟩ = some (.string (frT y)) ∧ w3.cell? ⟨gr, 7, none⟩ = some (.bool true)) := ⟨hq 4 _ rfl, hq 5 _ rfl, hq 6 _ rfl, hq 7 _ rfl⟩
  have HG : Hid (w.heap.size ≤ gr ∧ gr < w3.heap.size) := ⟨(ho6.lt gr rfl).1, by have := (ho6.lt gr rfl).2; omega⟩
  have HJ3 : Hid (j < w3.heap.size) := by have : j < w3.heap.size := by omega
                                          exact this
  have H3 : Hid (Dk w3 d (.map (some w1'.heap.size)) sec (secN (L : Int)) 2 (.slice p 0 pc) false ∧ Mp w3 w1'.heap.size 1 (D1 1 (.lit (.int .u64 ((w1'.heap.size + 1 : Nat) : Int)))) ∧ Fl w3 (w1'.heap.size + 1) (.slice (some ⟨g, 0, none⟩) L cap) (L : Int) (.map none) ∧ w3.ownsRow (w1'.heap.size + 2) 5 1 (.slice (some ⟨g, 0, none⟩) L cap) L (Lib.strCells tx) ∧ (w.heap.size ≤ w1'.heap.size ∧ w1'.heap.size + 2 ≤ g ∧ g < w3.heap.size) ∧ Chg (fun k => k = d ∨ k = j) w w3) :=
    ⟨hd3, hm3, hf3, ho3, ⟨hz1, hgB, by omega⟩, ((chg_below hb1).trans hc2 (fun k hk => Or.inl (Or.inl hk))).trans hc3 (fun k hk => by rcases hk with hk | hk; exact Or.inl (Or.inl hk); exact Or.inr (by omega))⟩
  obtain ⟨i0, hi, hz0, hz1', hz2'⟩ := info_parts info82
  clear hq ho6 hb1 hj1 hd1 hc2 hc3 hd2 hm2 hf2 ho2 hj2 hd3 hm3 hf3 ho3 hz1 hz2 hz3 hgB hgl
  go_wp2_with fail
  clear c0' c1' c2' c3'
  go_loopw [57] (fun v57 wr => ∃ (i : Nat) (rv : Value) (xs : List Value), i ≤ 2 ∧ v57 = .int .i64 (i : Int) ∧ Jr wr j d most rv 0 ∧ wr.ownsRow w3.heap.size 82 4 rv i xs ∧ Chg (fun k => k = j) w3 wr) (fun v57 _ => 2 - (intOf v57).toNat)
  case atStart => exact ⟨0, .slice none 0 0, [], by omega, rfl, hj3, World.ownsRow_nil _ _ _ _, Chg.refl _ _⟩
  case round =>
    clear hj3
    obtain ⟨i, rv, xs, hi2, rfl, hjr, hown, hch⟩ := hrel
    have cellk : ∀ {o : Nat} {v : Value}, w3.cell? ⟨gr, o, none⟩ = some v → wr.cell? ⟨gr, o, none⟩ = some v := fun {o v} h => (World.cell?_of_block (a := ⟨gr, o, none⟩) (hch.block gr HG.out.2 (fun e => by have := HG.out.1; omega))).trans h
    obtain rfl | rfl | rfl : i = 0 ∨ i = 1 ∨ i = 2 := by omega
    · have qq0 := HQ0.out.1
      have qq1 := HQ0.out.2.1
      have qq2 := HQ0.out.2.2.1
      have qq3 := HQ0.out.2.2.2
      have k0 := cellk qq0
      have k1 := cellk qq1
      have k2 := cellk qq2
      have k3 := cellk qq3
      clear qq0 qq1 qq2 qq3 cellk
      obtain ⟨tt, htt⟩ : ∃ tt, frT x = tt := ⟨_, rfl⟩
      obtain ⟨aa, haa⟩ : ∃ aa : Int, 12 = aa := ⟨_, rfl⟩
      have hab : -1000000 ≤ aa ∧ aa ≤ 1000000 := by rw [← haa]; omega
      rw [htt] at k2
      rw [haa] at k1
      clear htt haa
      go_wp2_with fail
      obtain ⟨wx, hwx⟩ : ∃ wx, wr.alloc (.cells #[.int .i64 1, .int .i64 aa, .string tt, .bool true] 82) = wx := ⟨_, rfl⟩
      have hbx : Below wr.heap.size wr wx := by rw [← hwx]; exact (Below.refl _ wr).alloc (Nat.le_refl _) _
      have rx : wx.heap[wr.heap.size]? = some (.cells #[.int .i64 1, .int .i64 aa, .string tt, .bool true] 82 (0, 0)) := by rw [← hwx]; exact heap_alloc_new _ _
      have xown : wx.ownsRow w3.heap.size 82 4 rv 0 xs := own_same hown (fun k hk => hbx.block k (hown.lt k hk).2)
      have xrow := (hbx.block _ (lt_of_row hjr)).trans hjr
      have hcx : Chg (fun k => k = j) w3 wx := hch.trans (chg_below hbx) (fun k hk => Or.inl hk)
      try rw [hwx]
      have c0 := cell_of_row wx _ 0 _ _ _ rx
      have c1 := cell_of_row wx _ 1 _ _ _ rx
      have c2 := cell_of_row wx _ 2 _ _ _ rx
      have c3 := cell_of_row wx _ 3 _ _ _ rx
      have e2 := cell_of_row wx _ 2 _ _ _ xrow
      have e2a : ∀ o, (wx.alloc o).cell? ⟨j, 2, none⟩ = some rv := fun o => (World.cell?_of_block (Below.heap_alloc wx o _ (lt_of_row xrow))).trans e2
      have hjx := lt_of_row xrow
      have hj3x : j < w3.heap.size := HJ3.out
      have hsx := hbx.size
      have hs3 := hch.size
      clear hwx k0 k1 k2 k3 hown hjr hch hbx
      have ca0 : ∀ o, (wx.alloc o).cell? ⟨wr.heap.size, 0, none⟩ = _ := fun o => (World.cell?_of_block (Below.heap_alloc wx o _ (lt_of_row rx))).trans c0
      have ca1 : ∀ o, (wx.alloc o).cell? ⟨wr.heap.size, 1, none⟩ = _ := fun o => (World.cell?_of_block (Below.heap_alloc wx o _ (lt_of_row rx))).trans c1
      have ca2 : ∀ o, (wx.alloc o).cell? ⟨wr.heap.size, 2, none⟩ = _ := fun o => (World.cell?_of_block (Below.heap_alloc wx o _ (lt_of_row rx))).trans c2
      have ca3 : ∀ o, (wx.alloc o).cell? ⟨wr.heap.size, 3, none⟩ = _ := fun o => (World.cell?_of_block (Below.heap_alloc wx o _ (lt_of_row rx))).trans c3
      have xnd : wx.drew.ownsRow w3.heap.size 82 4 rv 0 xs := xown
      have xlt := xown.lt
      clear HTL HJ HD HX HQ0 HQ1 hlt hjlt hdlt
      go_region_law (first | (refine step_append_lies _ (by rfl) (.tmp 72) (.tmp 74) 70 (by rfl) w3.heap.size 82 i0 _ 4 40 Tryz.underlying70 hi hz0 hz1' hz2' (by rfl) (by decide) rv 0 xs (by rfl) (xnd.alloc _) ⟨wx.heap.size, 0, none⟩ 1 1 [.int .i64 1, .int .i64 aa, .string tt, .bool true] (by rfl) (by rfl) (World.news_of_block (heap_alloc_new wx.drew _)) (fun u hu => by simp only [List.mem_cons, List.not_mem_nil, or_false] at hu; rcases hu with rfl | rfl | rfl | rfl <;> rfl) (by decide) (by unfold maxLen; omega) (by omega) (by simp; omega) (wx.heap.size + 1) (by simp) ?_; intro g3 cap3 w4 hown4 hgr4' hat4 hlt4; have hgr4 : (wx.alloc (.cells #[.int .i64 1, .int .i64 aa, .string tt, .bool true] 82)).grownBy w4 rv.ownBlock := ⟨hgr4'.os, hgr4'.tape, hgr4'.output, hgr4'.size, hgr4'.block⟩; clear hgr4'; have hrow4 := (hgr4.block j (by simp; omega) (fun e => by have := xlt j e.symm; omega)).trans ((Below.heap_alloc wx _ j hjx).trans xrow); have f42 := frozen_of_row w4 _ 2 _ _ hrow4; have e42 := cell_of_row w4 _ 2 _ _ _ hrow4))
      all_goals
        have hset : ∀ k, k ≠ j → (w4.setCell ⟨j, 2, none⟩ (.slice (some ⟨g3, 0, none⟩) (0 + 1) cap3)).heap[k]? = w4.heap[k]? := fun k hk => Below.heap_setCell _ _ _ k hk
        have hown5 : (w4.setCell ⟨j, 2, none⟩ (.slice (some ⟨g3, 0, none⟩) (0 + 1) cap3)).ownsRow w3.heap.size 82 4 (.slice (some ⟨g3, 0, none⟩) (0 + 1) cap3) (0 + 1) (xs ++ [.int .i64 1, .int .i64 aa, .string tt, .bool true]) := own_same hown4 (fun k hk => hset k (by have := hown4.lt k hk; omega))
        have hrow5 : Jr (w4.setCell ⟨j, 2, none⟩ (.slice (some ⟨g3, 0, none⟩) (0 + 1) cap3)) j d most (.slice (some ⟨g3, 0, none⟩) (0 + 1) cap3) 0 := row_setCell (k := 2) hrow4 (.slice (some ⟨g3, 0, none⟩) (0 + 1) cap3)
        have hch5 : Chg (fun k => k = j) w3 (w4.setCell ⟨j, 2, none⟩ (.slice (some ⟨g3, 0, none⟩) (0 + 1) cap3)) := ((hcx.trans (chg_below (S := fun k => k = j) ((Below.refl _ wx).alloc (Nat.le_refl _) (.cells #[.int .i64 1, .int .i64 aa, .string tt, .bool true] 82))) (fun k hk => Or.inl hk)).trans (chg_grown (S := fun k => w3.heap.size ≤ k) hgr4 (fun k hk => Or.inl (xlt k hk).1)) (fun k hk => Or.inr hk)).trans (chg_set (S := fun k => k = j) rfl) (fun k hk => Or.inl hk)
        clear hset hown4 hgr4 hat4 hlt4 hrow4 f42 e42 hcx xrow rx xown xnd
        go_wp2
        go_roundw
        case rel => exact ⟨0 + 1, _, _, by omega, by go_num, hrow5, hown5, hch5⟩
        case measure => simp [intOf]
    · have qq0 := HQ1.out.1
      have qq1 := HQ1.out.2.1
      have qq2 := HQ1.out.2.2.1
      have qq3 := HQ1.out.2.2.2
      have k0 := cellk qq0
      have k1 := cellk qq1
      have k2 := cellk qq2
      have k3 := cellk qq3
      clear qq0 qq1 qq2 qq3 cellk
      obtain ⟨tt, htt⟩ : ∃ tt, frT y = tt := ⟨_, rfl⟩
      obtain ⟨aa, haa⟩ : ∃ aa : Int, 12 + (x.size : Int) + 12 = aa := ⟨_, rfl⟩
      have hab : -1000000 ≤ aa ∧ aa ≤ 1000000 := by rw [← haa]; omega
      rw [htt] at k2
      rw [haa] at k1
      clear htt haa
      go_wp2_with fail
      obtain ⟨wx, hwx⟩ : ∃ wx, wr.alloc (.cells #[.int .i64 1, .int .i64 aa, .string tt, .bool true] 82) = wx := ⟨_, rfl⟩
      have hbx : Below wr.heap.size wr wx := by rw [← hwx]; exact (Below.refl _ wr).alloc (Nat.le_refl _) _
      have rx : wx.heap[wr.heap.size]? = some (.cells #[.int .i64 1, .int .i64 aa, .string tt, .bool true] 82 (0, 0)) := by rw [← hwx]; exact heap_alloc_new _ _
      have xown : wx.ownsRow w3.heap.size 82 4 rv 1 xs := own_same hown (fun k hk => hbx.block k (hown.lt k hk).2)
      have xrow := (hbx.block _ (lt_of_row hjr)).trans hjr
      have hcx : Chg (fun k => k = j) w3 wx := hch.trans (chg_below hbx) (fun k hk => Or.inl hk)
      try rw [hwx]
      have c0 := cell_of_row wx _ 0 _ _ _ rx
      have c1 := cell_of_row wx _ 1 _ _ _ rx
      have c2 := cell_of_row wx _ 2 _ _ _ rx
      have c3 := cell_of_row wx _ 3 _ _ _ rx
      have e2 := cell_of_row wx _ 2 _ _ _ xrow
      have e2a : ∀ o, (wx.alloc o).cell? ⟨j, 2, none⟩ = some rv := fun o => (World.cell?_of_block (Below.heap_alloc wx o _ (lt_of_row xrow))).trans e2
      have hjx := lt_of_row xrow
      have hj3x : j < w3.heap.size := HJ3.out
      have hsx := hbx.size
      have hs3 := hch.size
      clear hwx k0 k1 k2 k3 hown hjr hch hbx
      have ca0 : ∀ o, (wx.alloc o).cell? ⟨wr.heap.size, 0, none⟩ = _ := fun o => (World.cell?_of_block (Below.heap_alloc wx o _ (lt_of_row rx))).trans c0
      have ca1 : ∀ o, (wx.alloc o).cell? ⟨wr.heap.size, 1, none⟩ = _ := fun o => (World.cell?_of_block (Below.heap_alloc wx o _ (lt_of_row rx))).trans c1
      have ca2 : ∀ o, (wx.alloc o).cell? ⟨wr.heap.size, 2, none⟩ = _ := fun o => (World.cell?_of_block (Below.heap_alloc wx o _ (lt_of_row rx))).trans c2
      have ca3 : ∀ o, (wx.alloc o).cell? ⟨wr.heap.size, 3, none⟩ = _ := fun o => (World.cell?_of_block (Below.heap_alloc wx o _ (lt_of_row rx))).trans c3
      have xnd : wx.drew.ownsRow w3.heap.size 82 4 rv 1 xs := xown
      have xlt := xown.lt
      clear HTL HJ HD HX HQ0 HQ1 hlt hjlt hdlt
      go_region_law (first | (refine step_append_lies _ (by rfl) (.tmp 72) (.tmp 74) 70 (by rfl) w3.heap.size 82 i0 _ 4 40 Tryz.underlying70 hi hz0 hz1' hz2' (by rfl) (by decide) rv 1 xs (by rfl) (xnd.alloc _) ⟨wx.heap.size, 0, none⟩ 1 1 [.int .i64 1, .int .i64 aa, .string tt, .bool true] (by rfl) (by rfl) (World.news_of_block (heap_alloc_new wx.drew _)) (fun u hu => by simp only [List.mem_cons, List.not_mem_nil, or_false] at hu; rcases hu with rfl | rfl | rfl | rfl <;> rfl) (by decide) (by unfold maxLen; omega) (by omega) (by simp; omega) (wx.heap.size + 1) (by simp) ?_; intro g3 cap3 w4 hown4 hgr4' hat4 hlt4; have hgr4 : (wx.alloc (.cells #[.int .i64 1, .int .i64 aa, .string tt, .bool true] 82)).grownBy w4 rv.ownBlock := ⟨hgr4'.os, hgr4'.tape, hgr4'.output, hgr4'.size, hgr4'.block⟩; clear hgr4'; have hrow4 := (hgr4.block j (by simp; omega) (fun e => by have := xlt j e.symm; omega)).trans ((Below.heap_alloc wx _ j hjx).trans xrow); have f42 := frozen_of_row w4 _ 2 _ _ hrow4; have e42 := cell_of_row w4 _ 2 _ _ _ hrow4))
      all_goals
        have hset : ∀ k, k ≠ j → (w4.setCell ⟨j, 2, none⟩ (.slice (some ⟨g3, 0, none⟩) (1 + 1) cap3)).heap[k]? = w4.heap[k]? := fun k hk => Below.heap_setCell _ _ _ k hk
        have hown5 : (w4.setCell ⟨j, 2, none⟩ (.slice (some ⟨g3, 0, none⟩) (1 + 1) cap3)).ownsRow w3.heap.size 82 4 (.slice (some ⟨g3, 0, none⟩) (1 + 1) cap3) (1 + 1) (xs ++ [.int .i64 1, .int .i64 aa, .string tt, .bool true]) := own_same hown4 (fun k hk => hset k (by have := hown4.lt k hk; omega))
        have hrow5 : Jr (w4.setCell ⟨j, 2, none⟩ (.slice (some ⟨g3, 0, none⟩) (1 + 1) cap3)) j d most (.slice (some ⟨g3, 0, none⟩) (1 + 1) cap3) 0 := row_setCell (k := 2) hrow4 (.slice (some ⟨g3, 0, none⟩) (1 + 1) cap3)
        have hch5 : Chg (fun k => k = j) w3 (w4.setCell ⟨j, 2, none⟩ (.slice (some ⟨g3, 0, none⟩) (1 + 1) cap3)) := ((hcx.trans (chg_below (S := fun k => k = j) ((Below.refl _ wx).alloc (Nat.le_refl _) (.cells #[.int .i64 1, .int .i64 aa, .string tt, .bool true] 82))) (fun k hk => Or.inl hk)).trans (chg_grown (S := fun k => w3.heap.size ≤ k) hgr4 (fun k hk => Or.inl (xlt k hk).1)) (fun k hk => Or.inr hk)).trans (chg_set (S := fun k => k = j) rfl) (fun k hk => Or.inl hk)
        clear hset hown4 hgr4 hat4 hlt4 hrow4 f42 e42 hcx xrow rx xown xnd
        go_wp2
        go_roundw
        case rel => exact ⟨1 + 1, _, _, by omega, by go_num, hrow5, hown5, hch5⟩
        case measure => simp [intOf]
    · have j2 := hjr
      obtain ⟨k0, k1, k2, k3⟩ := hjr.cells
      have kf3 := hjr.fro 3
      have HC : Hid (Chg (fun k => k = j) w3 wr) := hch
      clear hjr hown cellk hch
      go_wp2
      have hset : ∀ k, k ≠ j → (wr.setCell ⟨j, 3, none⟩ (.int .i64 1)).heap[k]? = wr.heap[k]? := fun k hk => Below.heap_setCell _ _ _ k hk
      have hk3 : ∀ k, k < w3.heap.size → k ≠ j → (wr.setCell ⟨j, 3, none⟩ (.int .i64 1)).heap[k]? = w3.heap[k]? := fun k h1 h2 => (hset k h2).trans (HC.out.block k h1 h2)
      obtain ⟨q1, q2, q3, q4, q5, q6⟩ := H3.out
      have hjn := HJ3.out
      refine bodyPost_ret (results_tmp2 rfl _ _ _) rfl ⟨rfl, w1'.heap.size, w1'.heap.size + 1, g, cap, w1'.heap.size + 2, (hk3 d (lt_of_row q1) (fun e => HX.out.1 e.symm)).trans q1, mp_kept q2 (hk3 _ q2.lt (by omega)), (hk3 _ (lt_of_row q3) (by omega)).trans q3, own_same q4 (fun k hk => hk3 k (by have := (q4.lt k hk).2; omega) (by have := (q4.lt k hk).1; omega)), ⟨by omega, by omega, by omega, by omega, by omega, by omega⟩, (q6.trans HC.out (fun k hk => Or.inl (Or.inr hk))).trans (chg_set (S := fun k => k = j) rfl) (fun k hk => Or.inl (Or.inr hk))⟩
end Go.Proofs.YtgjalfcpfgbneaaGreatDoor
