/- A file of two records is read (read). -/
import Derived.Test.YtgjalfcpfgbneaaGreatDoorJn7
import Derived.Test.YtgjalfcpfgbneaaGreatDoorFScn
import Derived.Test.YtgjalfcpfgbneaaGreatDoorFFrm
namespace Go.Proofs.YtgjalfcpfgbneaaGreatDoor
open Go.RowKit Go.Shelf
theorem scan_two (x y : List UInt8) (hx : x.length ≤ 1000) (hy : y.length ≤ 1000) : F.scanL (F.frameL x ++ F.frameL y) 0 = [⟨12, x, true⟩, ⟨12 + x.length + 12, y, true⟩] := by
  have h1 := F.scan_frame [] x (F.frameL y) (by omega)
  have h2 := F.scan_frame (F.frameL x) y [] (by omega)
  have hl := F.frameL_len x
  have hm := F.frameL_len y
  have h3 : F.scanL (F.frameL x ++ F.frameL y) (12 + x.length + 12 + y.length) = [] := F.scan_end _ _ (by rw [List.length_append]; omega)
  rw [List.append_nil, hl, h3] at h2
  rw [List.nil_append, List.length_nil, Nat.zero_add] at h1
  rw [h1, h2]
theorem tx_list (x y : ByteArray) : ((⟨((frT x).data.toList ++ (frT y).data.toList).toArray⟩ : ByteArray)).data.toList = F.frameL x.data.toList ++ F.frameL y.data.toList := rfl
theorem ext_all (s : ByteArray) (l : List UInt8) (a b : Nat) (h : (s.data.toList.drop a).take (b - a) = l) : s.extract a b = ⟨l.toArray⟩ := by
  have h1 := F.ext_list s a b
  have h2 : (s.extract a b).data.toList = l := by rw [h1]; exact h
  have h3 : (s.extract a b).data = l.toArray := by rw [← h2]
  cases h4 : s.extract a b with
  | mk d => rw [h4] at h3; rw [show d = l.toArray from h3]
set_option maxRecDepth 100000 in
set_option maxHeartbeats 8000000 in
theorem jread_two {j d m f g cap base : Nat} {most sec used ch sure : Int} {pl ov : Value} (x y : ByteArray) (hx : x.size ≤ 1000) (hy : y.size ≤ 1000) (w : World) (hG : F.GL w) (hj : Jr w j d most (.slice none 0 0) 0) (hd : Dk w d (.map (some m)) sec used ch pl false) (_hjd : j ≠ d)
    (hm : Mp w m 1 (D1 1 (.lit (.int .u64 (f : Int))))) (hf : Fl w f (.slice (some ⟨g, 0, none⟩) (24 + x.size + y.size) cap) sure ov) (ho : w.ownsRow base 5 1 (.slice (some ⟨g, 0, none⟩) (24 + x.size + y.size) cap) (24 + x.size + y.size) (Lib.strCells ⟨((frT x).data.toList ++ (frT y).data.toList).toArray⟩)) :
    Calls Tryz.prog 25 #[.pointer (some ⟨j, 0, none⟩), .int .i64 1] w fun e w' => e = .returned (.bool true) ∧ ∃ gr cr : Nat, Jr w' j d most (.slice (some ⟨gr, 0, none⟩) 2 cr) 1 ∧ w'.cell? ⟨gr, 4, none⟩ = some (.int .i64 1) ∧ w'.cell? ⟨gr, 5, none⟩ = some (.int .i64 ((12 + x.size + 12 : Nat) : Int)) ∧ w'.cell? ⟨gr, 6, none⟩ = some (.string (frT y)) ∧ w'.cell? ⟨gr, 7, none⟩ = some (.bool true) ∧ Chg (fun k => k = j) w w' := by
  have hx2 : x.data.toList.length = x.size := rfl
  have hy2 : y.data.toList.length = y.size := rfl
  have e0 := frT_size x
  have e1 := frT_size y
  have e2 : (frT x).data.toList.length = (frT x).size := rfl
  have e3 : (frT y).data.toList.length = (frT y).size := rfl
  obtain ⟨tx, htx⟩ : ∃ tx : ByteArray, ⟨((frT x).data.toList ++ (frT y).data.toList).toArray⟩ = tx := ⟨_, rfl⟩
  have htl : tx.size = 24 + x.size + y.size := by
    rw [← htx]
    show ((frT x).data.toList ++ (frT y).data.toList).toArray.size = _
    rw [List.size_toArray, List.length_append]
    omega
  have htd : tx.data.toList = F.frameL x.data.toList ++ F.frameL y.data.toList := by rw [← htx]; rfl
  have x0 : tx.extract 0 (12 + x.size) = frT x := ext_all tx _ _ _ (by rw [htd, List.drop_zero, Nat.sub_zero, List.take_append_of_le_length (by rw [F.frameL_len]; omega), List.take_of_length_le (by rw [F.frameL_len]; omega)])
  have x1 : tx.extract (12 + x.size) (24 + x.size + y.size) = frT y := ext_all tx _ _ _ (by rw [htd, show 12 + x.size = (F.frameL x.data.toList).length by rw [F.frameL_len]; omega, List.drop_left, List.take_of_length_le (by rw [F.frameL_len, F.frameL_len]; omega)])
  have hsc : F.scanL tx.data.toList 0 = [⟨12, x.data.toList, true⟩, ⟨12 + x.size + 12, y.data.toList, true⟩] := by rw [htd]; exact scan_two _ _ (by omega) (by omega)
  rw [htx] at ho
  rw [← htl] at ho hf
  have kread := read_one 1 ⟨by omega, by omega⟩ tx (by omega) w hd hm (at_one _ _) hf ho
  have hjlt := lt_of_row hj
  have hscan : ∀ W : World, F.GL W → Calls Tryz.prog 49 #[.string tx] W fun e w' => ∃ v, e = .returned (.tuple #[v, .int .i64 ((24 + x.size + y.size : Nat) : Int)]) ∧ w'.ownsRow W.heap.size 113 3 v 2 [.int .i64 12, .string x, .bool true, .int .i64 ((12 + x.size + 12 : Nat) : Int), .string y, .bool true] ∧ Below W.heap.size W w' := fun W hGW => by
    have k := F.scan_any tx (by omega) W hGW
    rw [hsc] at k
    have hlast : F.lastOf [⟨12, x.data.toList, true⟩, ⟨12 + x.size + 12, y.data.toList, true⟩] = 24 + x.size + y.size := by
      show 12 + x.size + 12 + y.data.toList.length = _
      omega
    rw [hlast] at k
    exact k
  obtain ⟨L, hL⟩ : ∃ L, tx.size = L := ⟨_, rfl⟩
  have HX : Hid (tx.extract 0 (12 + x.size) = frT x ∧ tx.extract (12 + x.size) (24 + x.size + y.size) = frT y ∧ tx.size = 24 + x.size + y.size) := ⟨x0, x1, htl⟩
  have HJ : Hid (Jr w j d most (.slice none 0 0) 0) := hj
  have HG : Hid (F.GL w) := hG
  obtain ⟨c0, c1, c2, c3⟩ := hj.cells
  have kf3 := hj.fro 3
  clear hj hd hm hf ho hsc htd htx x0 x1 hL hG e0 e1 e2 e3 hx2 hy2 htl L
  go_enter Tryz.func25, Tryz.ntmps25
  go_wp2_with fail
  refine kread.mono ?_
  rintro e w1 ⟨rfl, rfl⟩
  clear kread
  go_wp2_with fail
  obtain ⟨w2, hw2⟩ : ∃ w2, w1.setCell ⟨j, 3, none⟩ (.int .i64 1) = w2 := ⟨_, rfl⟩
  have hj2 : Jr w2 j d most (.slice none 0 0) 1 := by rw [← hw2]; exact row_setCell (k := 3) HJ.out _
  have hc2 : Chg (fun k => k = j) w1 w2 := by rw [← hw2]; exact chg_set rfl
  have hG2 : F.GL w2 := fun i hi => (World.cell?_of_block (a := ⟨0, i, none⟩) (hc2.block 0 (World.block_lt_of_cell? w1 _ (HG.out 0 (by omega))) (fun e => by have h1 := HG.out 0 (by omega); have h2 := HJ.out.cells.1; rw [← e] at h2; rw [h2] at h1; cases h1))).trans (HG.out i hi)
  rw [hw2]
  clear hw2 c0 c1 c2 c3 kf3
  refine (hscan w2 hG2).mono ?_
  rintro e w3 ⟨v7, rfl, ho7, hb3⟩
  obtain ⟨gs, cs, rfl⟩ := ownsRow_succ ho7
  have hq : ∀ (o : Nat) (v : Value), ([.int .i64 12, .string x, .bool true, .int .i64 ((12 + x.size + 12 : Nat) : Int), .string y, .bool true] : List Value)[o]? = some v → w3.cell? ⟨gs, o, none⟩ = some v := fun o v hv => by
    have := ho7.cells (g := gs) rfl o v hv
    have e : (⟨gs, 0, none⟩ : Addr).add o = ⟨gs, o, none⟩ := by unfold Addr.add; split <;> simp_all
    rwa [e] at this
  have HQ0 : Hid (w3.cell? ⟨gs, 0, none⟩ = some (.int .i64 ((12 : Nat) : Int)) ∧ w3.cell? ⟨gs, 1, none⟩ = some (.string x) ∧ w3.cell? ⟨gs, 2, none⟩ = some (.bool true)) := ⟨hq 0 _ rfl, hq 1 _ rfl, hq 2 _ rfl⟩
  have HQ1 : Hid (w3.cell? ⟨gs, 3, none⟩ = some (.int .i64 ((12 + x.size + 12 : Nat) : Int)) ∧ w3.cell? ⟨gs, 4, none⟩ = some (.string y) ∧ w3.cell? ⟨gs, 5, none⟩ = some (.bool true)) := ⟨hq 3 _ rfl, hq 4 _ rfl, hq 5 _ rfl⟩
  have hgs := ho7.lt gs rfl
  have hz2 := hc2.size
  have hz3 := hb3.size
  have HS : Hid (w2.heap.size ≤ gs ∧ gs < w3.heap.size ∧ j < w2.heap.size) := ⟨hgs.1, hgs.2, by omega⟩
  have hj3 : Jr w3 j d most (.slice none 0 0) 1 := (hb3.block _ (by omega)).trans hj2
  have HJ3 : Hid (j < w3.heap.size) := show j < w3.heap.size by omega
  have HC3 : Hid (Chg (fun k => k = j) w1 w3) := hc2.trans (chg_below (S := fun k => k = j) hb3) (fun k hk => Or.inl hk)
  obtain ⟨i0, hi, hz0, hz1', hz2'⟩ := info_parts info82
  obtain ⟨LE, hLE⟩ : ∃ LE : Int, ((24 + x.size + y.size : Nat) : Int) = LE := ⟨_, rfl⟩
  have HLE : Hid ((tx.size : Int) = LE) := by rw [HX.out.2.2]; exact hLE
  rw [hLE]
  clear hq ho7 hgs hz2 hz3 hj2 hc2 hb3 hscan hG2 hLE HJ HG
  go_wp2_with fail
  go_loopw [34] (fun v34 wr => ∃ (i : Nat) (rv : Value) (xs : List Value), i ≤ 2 ∧ v34 = .int .i64 (i : Int) ∧ Jr wr j d most rv 1 ∧ wr.ownsRow w3.heap.size 82 4 rv i xs ∧ Chg (fun k => k = j) w3 wr ∧ xs = (if i = 0 then [] else if i = 1 then [.int .i64 1, .int .i64 ((12 : Nat) : Int), .string (frT x), .bool true] else [.int .i64 1, .int .i64 ((12 : Nat) : Int), .string (frT x), .bool true] ++ [.int .i64 1, .int .i64 ((12 + x.size + 12 : Nat) : Int), .string (frT y), .bool true])) (fun v34 _ => 2 - (intOf v34).toNat)
  case atStart => exact ⟨0, .slice none 0 0, [], by omega, rfl, hj3, World.ownsRow_nil _ _ _ _, Chg.refl _ _, rfl⟩
  case round =>
    clear hj3
    obtain ⟨i, rv, xs, hi2, rfl, hjr, hown, hch, hxs⟩ := hrel
    have HXS : Hid (xs = (if i = 0 then [] else if i = 1 then [.int .i64 1, .int .i64 ((12 : Nat) : Int), .string (frT x), .bool true] else [.int .i64 1, .int .i64 ((12 : Nat) : Int), .string (frT x), .bool true] ++ [.int .i64 1, .int .i64 ((12 + x.size + 12 : Nat) : Int), .string (frT y), .bool true])) := hxs
    clear hxs
    have cellk : ∀ {o : Nat} {v : Value}, w3.cell? ⟨gs, o, none⟩ = some v → wr.cell? ⟨gs, o, none⟩ = some v := fun {o v} h => (World.cell?_of_block (a := ⟨gs, o, none⟩) (hch.block gs HS.out.2.1 (fun e => by have := HS.out; omega))).trans h
    obtain rfl | rfl | rfl : i = 0 ∨ i = 1 ∨ i = 2 := by omega
    · obtain ⟨a, b, n, bd, tt, ha, hb', hn, hbd, htt⟩ : ∃ (a b n : Nat) (bd tt : ByteArray), a = 12 ∧ b = 0 ∧ n = 12 + x.size ∧ bd = x ∧ tt = frT x := ⟨_, _, _, _, _, rfl, rfl, rfl, rfl, rfl⟩
      have q0 : wr.cell? ⟨gs, 0, none⟩ = some (.int .i64 (a : Int)) := by rw [ha]; exact cellk HQ0.out.1
      have q1 : wr.cell? ⟨gs, 1, none⟩ = some (.string bd) := by rw [hbd]; exact cellk HQ0.out.2.1
      have q2 : wr.cell? ⟨gs, 2, none⟩ = some (.bool true) := cellk HQ0.out.2.2
      have hext : tx.extract b n = tt := by rw [hb', hn, htt]; exact HX.out.1
      have htn : tx.size = 24 + x.size + y.size := HX.out.2.2
      have hts : 0 < tt.size ∧ tt.size ≤ 1000000 := by rw [htt, frT_size]; omega
      have hw1 : IntKind.i64.wrap ((a : Int) - 12) = (b : Int) := by rw [IntKind.wrap_i64]; omega
      have hw2 : IntKind.i64.wrap ((a : Int) + (bd.size : Int)) = (n : Int) := by rw [IntKind.wrap_i64, hbd]; omega
      have hbn : (b : Int) ≤ (n : Int) := by omega
      have hnt : (n : Int) ≤ (tx.size : Int) := by omega
      have HA : Hid ((a : Int) = ((12 : Nat) : Int) ∧ tt = frT x) := ⟨by rw [ha], htt⟩
      have hbs : bd.size ≤ 1000 := by rw [hbd]; omega
      have haL : a ≤ 2000 := by omega
      clear ha hb' hn hbd htt htn cellk
      go_wp2_with fail
      obtain ⟨wx, hwx⟩ : ∃ wx, wr.alloc (.cells #[.int .i64 (a : Int), .string bd, .bool true] 113) = wx := ⟨_, rfl⟩
      have hbx : Below wr.heap.size wr wx := by rw [← hwx]; exact (Below.refl _ wr).alloc (Nat.le_refl _) _
      have rx : wx.heap[wr.heap.size]? = some (.cells #[.int .i64 (a : Int), .string bd, .bool true] 113 (0, 0)) := by rw [← hwx]; exact heap_alloc_new _ _
      have kcl := sclone tt hts.1 hts.2 wx
      rw [hwx]
      clear hwx q0 q1 q2
      clear hext
      refine kcl.mono ?_
      rintro e wy ⟨rfl, hby⟩
      have hxy : Below wr.heap.size wr wy := hbx.trans (hby.mono hbx.size)
      have ry := (hby.block _ (lt_of_row rx)).trans rx
      have yown : wy.ownsRow w3.heap.size 82 4 rv 0 xs := own_same hown (fun k hk => hxy.block k (hown.lt k hk).2)
      have yrow := (hxy.block _ (lt_of_row hjr)).trans hjr
      have hcy : Chg (fun k => k = j) w3 wy := hch.trans (chg_below hxy) (fun k hk => Or.inl hk)
      have c0 := cell_of_row wy _ 0 _ _ _ ry
      have c2 := cell_of_row wy _ 2 _ _ _ ry
      have e2 := cell_of_row wy _ 2 _ _ _ yrow
      have ca0 : ∀ o, (wy.alloc o).cell? ⟨wr.heap.size, 0, none⟩ = _ := fun o => (World.cell?_of_block (Below.heap_alloc wy o _ (lt_of_row ry))).trans c0
      have ca2 : ∀ o, (wy.alloc o).cell? ⟨wr.heap.size, 2, none⟩ = _ := fun o => (World.cell?_of_block (Below.heap_alloc wy o _ (lt_of_row ry))).trans c2
      have e2a : ∀ o, (wy.alloc o).cell? ⟨j, 2, none⟩ = some rv := fun o => (World.cell?_of_block (Below.heap_alloc wy o _ (lt_of_row yrow))).trans e2
      have hjx := lt_of_row yrow
      have hj3x : j < w3.heap.size := HJ3.out
      have hsx := hxy.size
      have hs3 := hch.size
      have xnd : wy.drew.ownsRow w3.heap.size 82 4 rv 0 xs := yown
      have xlt := yown.lt
      clear kcl hown hjr hch hbx rx hby hxy ry
      go_wp2_with fail
      go_region_law (first | (refine step_append_lies _ (by rfl) (.tmp 54) (.tmp 62) 70 (by rfl) w3.heap.size 82 i0 _ 4 40 Tryz.underlying70 hi hz0 hz1' hz2' (by rfl) (by decide) rv 0 xs (by rfl) (xnd.alloc _) ⟨wy.heap.size, 0, none⟩ 1 1 [.int .i64 1, .int .i64 (a : Int), .string tt, .bool true] (by rfl) (by rfl) (World.news_of_block (heap_alloc_new wy.drew _)) (fun u hu => by simp only [List.mem_cons, List.not_mem_nil, or_false] at hu; rcases hu with rfl | rfl | rfl | rfl <;> rfl) (by decide) (by unfold maxLen; omega) (by omega) (by simp; omega) (wy.heap.size + 1) (by simp) ?_; intro g3 cap3 w4 hown4 hgr4' hat4 hlt4; have hgr4 : (wy.alloc (.cells #[.int .i64 1, .int .i64 (a : Int), .string tt, .bool true] 82)).grownBy w4 rv.ownBlock := ⟨hgr4'.os, hgr4'.tape, hgr4'.output, hgr4'.size, hgr4'.block⟩; clear hgr4'; have hrow4 := (hgr4.block j (by simp; omega) (fun e => by have := xlt j e.symm; omega)).trans ((Below.heap_alloc wy _ j hjx).trans yrow); have f42 := frozen_of_row w4 _ 2 _ _ hrow4; have e42 := cell_of_row w4 _ 2 _ _ _ hrow4))
      all_goals
        have hset : ∀ k, k ≠ j → (w4.setCell ⟨j, 2, none⟩ (.slice (some ⟨g3, 0, none⟩) (0 + 1) cap3)).heap[k]? = w4.heap[k]? := fun k hk => Below.heap_setCell _ _ _ k hk
        have hown5 : (w4.setCell ⟨j, 2, none⟩ (.slice (some ⟨g3, 0, none⟩) (0 + 1) cap3)).ownsRow w3.heap.size 82 4 (.slice (some ⟨g3, 0, none⟩) (0 + 1) cap3) (0 + 1) (xs ++ [.int .i64 1, .int .i64 (a : Int), .string tt, .bool true]) := own_same hown4 (fun k hk => hset k (by have := hown4.lt k hk; omega))
        have hrow5 : Jr (w4.setCell ⟨j, 2, none⟩ (.slice (some ⟨g3, 0, none⟩) (0 + 1) cap3)) j d most (.slice (some ⟨g3, 0, none⟩) (0 + 1) cap3) 1 := row_setCell (k := 2) hrow4 (.slice (some ⟨g3, 0, none⟩) (0 + 1) cap3)
        have hch5 : Chg (fun k => k = j) w3 (w4.setCell ⟨j, 2, none⟩ (.slice (some ⟨g3, 0, none⟩) (0 + 1) cap3)) := ((hcy.trans (chg_below (S := fun k => k = j) ((Below.refl _ wy).alloc (Nat.le_refl _) (.cells #[.int .i64 1, .int .i64 (a : Int), .string tt, .bool true] 82))) (fun k hk => Or.inl hk)).trans (chg_grown (S := fun k => w3.heap.size ≤ k) hgr4 (fun k hk => Or.inl (xlt k hk).1)) (fun k hk => Or.inr hk)).trans (chg_set (S := fun k => k = j) rfl) (fun k hk => Or.inl hk)
        have hxs : xs ++ [.int .i64 1, .int .i64 (a : Int), .string tt, .bool true] = [.int .i64 1, .int .i64 ((12 : Nat) : Int), .string (frT x), .bool true] := by rw [show xs = _ from HXS.out, HA.out.1, HA.out.2]; rfl
        rw [hxs] at hown5
        clear hset hown4 hgr4 hat4 hlt4 hrow4 f42 e42 hcy yrow yown xnd hxs
        go_wp2
        go_roundw
        case rel => exact ⟨0 + 1, _, _, by omega, by go_num, hrow5, hown5, hch5, rfl⟩
        case measure => simp [intOf]
    · obtain ⟨a, b, n, bd, tt, ha, hb', hn, hbd, htt⟩ : ∃ (a b n : Nat) (bd tt : ByteArray), a = 12 + x.size + 12 ∧ b = 12 + x.size ∧ n = 24 + x.size + y.size ∧ bd = y ∧ tt = frT y := ⟨_, _, _, _, _, rfl, rfl, rfl, rfl, rfl⟩
      have q0 : wr.cell? ⟨gs, 3, none⟩ = some (.int .i64 (a : Int)) := by rw [ha]; exact cellk HQ1.out.1
      have q1 : wr.cell? ⟨gs, 4, none⟩ = some (.string bd) := by rw [hbd]; exact cellk HQ1.out.2.1
      have q2 : wr.cell? ⟨gs, 5, none⟩ = some (.bool true) := cellk HQ1.out.2.2
      have hext : tx.extract b n = tt := by rw [hb', hn, htt]; exact HX.out.2.1
      have htn : tx.size = 24 + x.size + y.size := HX.out.2.2
      have hts : 0 < tt.size ∧ tt.size ≤ 1000000 := by rw [htt, frT_size]; omega
      have hw1 : IntKind.i64.wrap ((a : Int) - 12) = (b : Int) := by rw [IntKind.wrap_i64]; omega
      have hw2 : IntKind.i64.wrap ((a : Int) + (bd.size : Int)) = (n : Int) := by rw [IntKind.wrap_i64, hbd]; omega
      have hbn : (b : Int) ≤ (n : Int) := by omega
      have hnt : (n : Int) ≤ (tx.size : Int) := by omega
      have HA : Hid ((a : Int) = ((12 + x.size + 12 : Nat) : Int) ∧ tt = frT y) := ⟨by rw [ha], htt⟩
      have hbs : bd.size ≤ 1000 := by rw [hbd]; omega
      have haL : a ≤ 2000 := by omega
      clear ha hb' hn hbd htt htn cellk
      go_wp2_with fail
      obtain ⟨wx, hwx⟩ : ∃ wx, wr.alloc (.cells #[.int .i64 (a : Int), .string bd, .bool true] 113) = wx := ⟨_, rfl⟩
      have hbx : Below wr.heap.size wr wx := by rw [← hwx]; exact (Below.refl _ wr).alloc (Nat.le_refl _) _
      have rx : wx.heap[wr.heap.size]? = some (.cells #[.int .i64 (a : Int), .string bd, .bool true] 113 (0, 0)) := by rw [← hwx]; exact heap_alloc_new _ _
      have kcl := sclone tt hts.1 hts.2 wx
      rw [hwx]
      clear hwx q0 q1 q2
      clear hext
      refine kcl.mono ?_
      rintro e wy ⟨rfl, hby⟩
      have hxy : Below wr.heap.size wr wy := hbx.trans (hby.mono hbx.size)
      have ry := (hby.block _ (lt_of_row rx)).trans rx
      have yown : wy.ownsRow w3.heap.size 82 4 rv 1 xs := own_same hown (fun k hk => hxy.block k (hown.lt k hk).2)
      have yrow := (hxy.block _ (lt_of_row hjr)).trans hjr
      have hcy : Chg (fun k => k = j) w3 wy := hch.trans (chg_below hxy) (fun k hk => Or.inl hk)
      have c0 := cell_of_row wy _ 0 _ _ _ ry
      have c2 := cell_of_row wy _ 2 _ _ _ ry
      have e2 := cell_of_row wy _ 2 _ _ _ yrow
      have ca0 : ∀ o, (wy.alloc o).cell? ⟨wr.heap.size, 0, none⟩ = _ := fun o => (World.cell?_of_block (Below.heap_alloc wy o _ (lt_of_row ry))).trans c0
      have ca2 : ∀ o, (wy.alloc o).cell? ⟨wr.heap.size, 2, none⟩ = _ := fun o => (World.cell?_of_block (Below.heap_alloc wy o _ (lt_of_row ry))).trans c2
      have e2a : ∀ o, (wy.alloc o).cell? ⟨j, 2, none⟩ = some rv := fun o => (World.cell?_of_block (Below.heap_alloc wy o _ (lt_of_row yrow))).trans e2
      have hjx := lt_of_row yrow
      have hj3x : j < w3.heap.size := HJ3.out
      have hsx := hxy.size
      have hs3 := hch.size
      have xnd : wy.drew.ownsRow w3.heap.size 82 4 rv 1 xs := yown
      have xlt := yown.lt
      clear kcl hown hjr hch hbx rx hby hxy ry
      go_wp2_with fail
      go_region_law (first | (refine step_append_lies _ (by rfl) (.tmp 54) (.tmp 62) 70 (by rfl) w3.heap.size 82 i0 _ 4 40 Tryz.underlying70 hi hz0 hz1' hz2' (by rfl) (by decide) rv 1 xs (by rfl) (xnd.alloc _) ⟨wy.heap.size, 0, none⟩ 1 1 [.int .i64 1, .int .i64 (a : Int), .string tt, .bool true] (by rfl) (by rfl) (World.news_of_block (heap_alloc_new wy.drew _)) (fun u hu => by simp only [List.mem_cons, List.not_mem_nil, or_false] at hu; rcases hu with rfl | rfl | rfl | rfl <;> rfl) (by decide) (by unfold maxLen; omega) (by omega) (by simp; omega) (wy.heap.size + 1) (by simp) ?_; intro g3 cap3 w4 hown4 hgr4' hat4 hlt4; have hgr4 : (wy.alloc (.cells #[.int .i64 1, .int .i64 (a : Int), .string tt, .bool true] 82)).grownBy w4 rv.ownBlock := ⟨hgr4'.os, hgr4'.tape, hgr4'.output, hgr4'.size, hgr4'.block⟩; clear hgr4'; have hrow4 := (hgr4.block j (by simp; omega) (fun e => by have := xlt j e.symm; omega)).trans ((Below.heap_alloc wy _ j hjx).trans yrow); have f42 := frozen_of_row w4 _ 2 _ _ hrow4; have e42 := cell_of_row w4 _ 2 _ _ _ hrow4))
      all_goals
        have hset : ∀ k, k ≠ j → (w4.setCell ⟨j, 2, none⟩ (.slice (some ⟨g3, 0, none⟩) (1 + 1) cap3)).heap[k]? = w4.heap[k]? := fun k hk => Below.heap_setCell _ _ _ k hk
        have hown5 : (w4.setCell ⟨j, 2, none⟩ (.slice (some ⟨g3, 0, none⟩) (1 + 1) cap3)).ownsRow w3.heap.size 82 4 (.slice (some ⟨g3, 0, none⟩) (1 + 1) cap3) (1 + 1) (xs ++ [.int .i64 1, .int .i64 (a : Int), .string tt, .bool true]) := own_same hown4 (fun k hk => hset k (by have := hown4.lt k hk; omega))
        have hrow5 : Jr (w4.setCell ⟨j, 2, none⟩ (.slice (some ⟨g3, 0, none⟩) (1 + 1) cap3)) j d most (.slice (some ⟨g3, 0, none⟩) (1 + 1) cap3) 1 := row_setCell (k := 2) hrow4 (.slice (some ⟨g3, 0, none⟩) (1 + 1) cap3)
        have hch5 : Chg (fun k => k = j) w3 (w4.setCell ⟨j, 2, none⟩ (.slice (some ⟨g3, 0, none⟩) (1 + 1) cap3)) := ((hcy.trans (chg_below (S := fun k => k = j) ((Below.refl _ wy).alloc (Nat.le_refl _) (.cells #[.int .i64 1, .int .i64 (a : Int), .string tt, .bool true] 82))) (fun k hk => Or.inl hk)).trans (chg_grown (S := fun k => w3.heap.size ≤ k) hgr4 (fun k hk => Or.inl (xlt k hk).1)) (fun k hk => Or.inr hk)).trans (chg_set (S := fun k => k = j) rfl) (fun k hk => Or.inl hk)
        have hxs : xs ++ [.int .i64 1, .int .i64 (a : Int), .string tt, .bool true] = [.int .i64 1, .int .i64 ((12 : Nat) : Int), .string (frT x), .bool true] ++ [.int .i64 1, .int .i64 ((12 + x.size + 12 : Nat) : Int), .string (frT y), .bool true] := by rw [show xs = _ from HXS.out, HA.out.1, HA.out.2]; rfl
        rw [hxs] at hown5
        clear hset hown4 hgr4 hat4 hlt4 hrow4 f42 e42 hcy yrow yown xnd hxs
        go_wp2
        go_roundw
        case rel => exact ⟨1 + 1, _, _, by omega, by go_num, hrow5, hown5, hch5, rfl⟩
        case measure => simp [intOf]
    · have hs2 := hown
      rw [show xs = _ from HXS.out] at hs2
      obtain ⟨gr, cr, rfl⟩ := ownsRow_succ hs2
      have hc : ∀ (o : Nat) (v : Value), ([.int .i64 1, .int .i64 ((12 : Nat) : Int), .string (frT x), .bool true] ++ [.int .i64 1, .int .i64 ((12 + x.size + 12 : Nat) : Int), .string (frT y), .bool true] : List Value)[o]? = some v → wr.cell? ⟨gr, o, none⟩ = some v := fun o v hv => by
        have := hs2.cells (g := gr) rfl o v hv
        have e : (⟨gr, 0, none⟩ : Addr).add o = ⟨gr, o, none⟩ := by unfold Addr.add; split <;> simp_all
        rwa [e] at this
      have H9 : Hid (Jr wr j d most (.slice (some ⟨gr, 0, none⟩) 2 cr) 1 ∧ wr.cell? ⟨gr, 4, none⟩ = some (.int .i64 1) ∧ wr.cell? ⟨gr, 5, none⟩ = some (.int .i64 ((12 + x.size + 12 : Nat) : Int)) ∧ wr.cell? ⟨gr, 6, none⟩ = some (.string (frT y)) ∧ wr.cell? ⟨gr, 7, none⟩ = some (.bool true) ∧ Chg (fun k => k = j) w1 wr) := ⟨hjr, hc 4 _ rfl, hc 5 _ rfl, hc 6 _ rfl, hc 7 _ rfl, HC3.out.trans hch (fun k hk => Or.inl hk)⟩
      have hle := HLE.out
      clear hs2 hown hjr hch hc cellk
      go_wp2
      go_ret
      exact ⟨rfl, gr, cr, H9.out⟩
end Go.Proofs.YtgjalfcpfgbneaaGreatDoor
