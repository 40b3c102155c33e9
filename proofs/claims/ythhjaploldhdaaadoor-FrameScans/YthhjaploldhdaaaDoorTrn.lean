/- FrameTorn, called: of any texts and numbers the call returns true, and nothing that was there has changed. -/
import Derived.Test.YthhjaploldhdaaaDoorAwk
import Derived.Test.YthhjaploldhdaaaDoorCrc
import Derived.OwnWalk
import Derived.Deep.DeepCutAuto
import Derived.Deep.CutBlock
import Derived.Deep.CutRange
namespace Go.Proofs.YthhjaploldhdaaaDoor
open Go Go.RowKit
def bodies (xs : List ByteArray) : List (List UInt8) := (xs.take 8).map fun x => x.data.toList.take 300
theorem bodies_len (xs : List ByteArray) : (bodies xs).length = min 8 xs.length := by simp [bodies]
theorem bodies_le (xs : List ByteArray) : ∀ b ∈ bodies xs, b.length ≤ 300 := by
  intro b hb
  obtain ⟨x, _, rfl⟩ := List.mem_map.1 hb
  simp; omega
theorem bodies_get (xs : List ByteArray) (k : Nat) (h : k < (bodies xs).length) : (bodies xs).getD k [] = (xs.getD k ByteArray.empty).data.toList.take 300 := by
  rw [bodies_len] at h
  unfold bodies
  simp [List.getD_eq_getElem?_getD, show k < 8 by omega, show k < xs.length by omega]
def endsV (bs : List (List UInt8)) (k : Nat) : List Value := (List.range k).map fun j => .int .i64 (E bs (j + 1) : Nat)
theorem endsV_succ (bs : List (List UInt8)) (k : Nat) : endsV bs (k + 1) = endsV bs k ++ [.int .i64 (E bs (k + 1) : Nat)] := by
  simp [endsV, List.range_succ]
theorem info3 : (Tryd.prog.info? 3).map (fun i => (i.zero, i.size, i.bytes)) = some (some (.int .i64 0), 1, 8) := by kernel_rfl
theorem ownsRow_below {w w' : World} {base : Nat} {e : TypeId} {size n : Nat} {v : Value} {xs : List Value} (h : w.ownsRow base e size v n xs) (hb : Below w.heap.size w w') : w'.ownsRow base e size v n xs := by
  refine ⟨h.1, ?_⟩
  rcases h.2 with h0 | ⟨g, cap, cur, hv, hg, hcur, rest⟩
  · exact .inl h0
  · exact .inr ⟨g, cap, cur, hv, hg, (hb.block g (Array.getElem?_eq_some_iff.1 hcur).1).trans hcur, rest⟩
theorem ownsRow_form {w : World} {base : Nat} {e : TypeId} {size n : Nat} {v : Value} {xs : List Value} (h : w.ownsRow base e size v n xs) :
    ∃ a cap, v = .slice a n cap ∧ (0 < n → ∃ g, a = some ⟨g, 0, none⟩ ∧ base ≤ g ∧ ∀ j u, xs[j]? = some u → w.cell? ⟨g, j, none⟩ = some u) := by
  rcases h.2 with ⟨rfl, h0⟩ | ⟨g, cap, cur, rfl, hb, hcur, h1, h2, h3, h4⟩
  · exact ⟨none, 0, by rw [h0], fun hn => absurd hn (by omega)⟩
  · refine ⟨_, cap, rfl, fun hn => ⟨g, rfl, hb, fun j u hu => ?_⟩⟩
    have hj : j < n * size := by rw [← h.1]; exact (List.getElem?_eq_some_iff.1 hu).1
    rw [cell_of_row w g j cur e _ hcur]
    rw [← h4, List.getElem?_take_of_lt hj] at hu
    simpa using hu
theorem tmod_in (c : Int) (L : Nat) (hL : 0 < L) : -(L : Int) < c.tmod L ∧ c.tmod L < L := by
  have h := Int.natAbs_tmod c (L : Int)
  have h2 : c.natAbs % (L : Int).natAbs < (L : Int).natAbs := Nat.mod_lt _ (by omega)
  omega
theorem mod_fit (c : Int) (L : Nat) (hL : L ≤ 2496) : ∃ m : Nat, m ≤ L ∧ (wrap64 (wrap64 (c.tmod ((L : Int) + 1) + L) + 1)).tmod ((L : Int) + 1) = m := by
  have h := tmod_in c (L + 1) (by omega)
  have e : ((L + 1 : Nat) : Int) = (L : Int) + 1 := by omega
  rw [e] at h
  obtain ⟨r, hr⟩ : ∃ r, c.tmod ((L : Int) + 1) = r := ⟨_, rfl⟩
  rw [hr] at h ⊢
  rw [w64i (r + L) (by omega), w64i (r + L + 1) (by omega), Int.tmod_eq_emod_of_nonneg (by omega)]
  have h1 := Int.emod_nonneg (r + L + 1) (show (L : Int) + 1 ≠ 0 by omega)
  have h2 := Int.emod_lt_of_pos (r + L + 1) (show (0 : Int) < (L : Int) + 1 by omega)
  exact ⟨((r + L + 1) % ((L : Int) + 1)).toNat, by omega, by omega⟩
theorem mod_fit2 (c : Int) (L : Nat) (h0 : 0 < L) (hL : L ≤ 2496) : ∃ m : Nat, m < L ∧ (wrap64 (c.tmod (L : Int) + L)).tmod (L : Int) = m := by
  have h := tmod_in c L h0
  obtain ⟨r, hr⟩ : ∃ r, c.tmod (L : Int) = r := ⟨_, rfl⟩
  rw [hr] at h ⊢
  rw [w64i (r + L) (by omega), Int.tmod_eq_emod_of_nonneg (by omega)]
  have h1 := Int.emod_nonneg (r + L) (show (L : Int) ≠ 0 by omega)
  have h2 := Int.emod_lt_of_pos (r + L) (show (0 : Int) < (L : Int) by omega)
  exact ⟨((r + L) % (L : Int)).toNat, by omega, by omega⟩
theorem endsV_get (bs : List (List UInt8)) (k j : Nat) (h : j < k) : (endsV bs k)[j]? = some (.int .i64 (E bs (j + 1) : Nat)) := by
  simp [endsV, h]
theorem cat_take_succ (bs : List (List UInt8)) (k : Nat) (h : k < bs.length) : cat (bs.take (k + 1)) = cat (bs.take k) ++ frameL (bs.getD k []) := by
  rw [take_snoc bs [] k h, cat_snoc]
theorem xor1 (x : UInt8) : bits BinOp.xor IntKind.u8 (x.toNat : Int) 1 = ((x ^^^ 1).toNat : Int) := by
  have : ∀ n : Fin 256, bits BinOp.xor IntKind.u8 (n.val : Int) 1 = (((UInt8.ofNat n.val) ^^^ 1).toNat : Int) := by decide +kernel
  have h := this ⟨x.toNat, x.toNat_lt⟩
  simpa using h
theorem xor1_ne (x : UInt8) : x ^^^ 1 ≠ x := by
  have : ∀ n : Fin 256, (UInt8.ofNat n.val) ^^^ 1 ≠ UInt8.ofNat n.val := by decide +kernel
  have h := this ⟨x.toNat, x.toNat_lt⟩
  simpa using h
theorem flip_list (SS : ByteArray) (k : Nat) (y : UInt8) (h : k < SS.size) : (SS.extract 0 k ++ (⟨#[y]⟩ : ByteArray) ++ SS.extract (k + 1) SS.size).data.toList = SS.data.toList.set k y := by
  have e1 : (SS.extract 0 k).data.toList = SS.data.toList.take k := by rw [ext_list]; simp [sub]
  have e2 : (SS.extract (k + 1) SS.size).data.toList = SS.data.toList.drop (k + 1) := by
    rw [ext_list]; unfold sub; rw [List.take_of_length_le (by simp)]
  simp only [ByteArray.data_append, Array.toList_append, e1, e2]
  rw [List.set_eq_take_append_cons_drop, if_pos (by rw [slen]; exact h)]
  simp
theorem cellsOf_get (l : List Fr) (t : Nat) (h : t < l.length) : (cellsOf l)[t * 3 + 2]? = some (.bool (l.getD t ⟨0, [], false⟩).good) := by
  induction l generalizing t with
  | nil => simp at h
  | cons x l ih =>
    cases t with
    | zero => simp [cellsOf]
    | succ t =>
      have := ih t (by simpa using h)
      have e : (t + 1) * 3 + 2 = (t * 3 + 2) + 3 := by omega
      rw [e]
      simpa [cellsOf] using this
theorem goodN_succ (l : List Fr) (t : Nat) (h : t < l.length) : goodN (l.take (t + 1)) = goodN (l.take t) + (if (l.getD t ⟨0, [], false⟩).good then 1 else 0) := by
  rw [take_snoc l ⟨0, [], false⟩ t h]
  unfold goodN
  rw [List.filter_append, List.length_append]
  congr 1
  obtain ⟨f, hf⟩ : ∃ f, l.getD t ⟨0, [], false⟩ = f := ⟨_, rfl⟩
  rw [hf]
  cases hg : f.good <;> simp [hg]
theorem flip_size (SS : ByteArray) (k : Nat) (y : UInt8) (h : k < SS.size) : (SS.extract 0 k ++ (⟨#[y]⟩ : ByteArray) ++ SS.extract (k + 1) SS.size).size = SS.size := by
  have e := congrArg List.length (flip_list SS k y h)
  rw [List.length_set, slen, slen] at e
  exact e
theorem scan_torn (SS : ByteArray) (bs : List (List UInt8)) (m j : Nat) (hs : SS.size ≤ 2496) (hd : SS.data.toList = cat bs) (hb : ∀ b ∈ bs, b.length ≤ 300) (hj : j ≤ bs.length) (h1 : ∀ i, i < j → E bs (i + 1) ≤ m) (h2 : j = bs.length ∨ m < E bs (j + 1)) (w : World) (hG : GL w) :
    Calls Tryd.prog 15 #[.string (SS.extract 0 m)] w fun e w' => ∃ v, e = .returned (.tuple #[v, .int .i64 (E bs j : Nat)]) ∧ w'.ownsRow w.heap.size 43 3 v j (cellsOf (goods 0 (bs.take j))) ∧ Below w.heap.size w w' := by
  have hlist : (SS.extract 0 m).data.toList = (cat bs).take m := by rw [ext_list, hd]; simp [sub]
  have hsc : scanL (SS.extract 0 m).data.toList 0 = goods 0 (bs.take j) := by
    rw [hlist]
    have h := scan_cut bs [] m (fun b hb' => Nat.le_trans (hb b hb') (by omega))
    rw [whole_eq bs m j h1 hj h2] at h
    simpa using h
  refine (scan_any (SS.extract 0 m) (by simp; omega) w hG).mono ?_
  rintro e w' ⟨v, rfl, hr, hbel⟩
  rw [hsc] at hr ⊢
  rw [goods_len, List.length_take, Nat.min_eq_left hj] at hr
  rw [last_take bs j hj]
  exact ⟨v, rfl, hr, hbel⟩
set_option maxRecDepth 20000 in
set_option maxHeartbeats 4000000 in
theorem torn_walk (a : Option Addr) (cap : Nat) (xs : List ByteArray) (cut at_ : Int) (w : World) (hG : GL w) (hml : xs.length ≤ maxLen)
    (hL : 0 < xs.length → ∃ g q, a = some ⟨g, q, none⟩ ∧ ∀ i, i < xs.length → w.cell? ⟨g, q + i, none⟩ = some (.string (xs.getD i ByteArray.empty))) :
    Calls Tryd.prog 5 #[.slice a xs.length cap, .int .i64 cut, .int .i64 at_] w fun e w' => e = .returned (.bool true) ∧ Below w.heap.size w w' := by
  obtain ⟨bs, hbs⟩ : ∃ bs, bodies xs = bs := ⟨_, rfl⟩
  have hblen := bodies_len xs
  have hble := bodies_le xs
  have hbget := bodies_get xs
  rw [hbs] at hblen hble hbget
  obtain ⟨n, hn⟩ : ∃ n, xs.length = n := ⟨_, rfl⟩
  rw [hn] at hblen hL hml ⊢
  have hb8 : bs.length ≤ 8 := by omega
  have hbn : bs.length ≤ n := by omega
  have HB : Hid (bs.length = min 8 n) := hblen
  clear hblen
  obtain ⟨i0, hi, hz0, hz1, hz2⟩ := info_parts info3
  have hml' : n ≤ 9223372036854775807 := hml
  go_enter Tryd.func5, Tryd.ntmps5
  go_upto_block 0 with fail
  go_cut [7, 8, 9] (fun s ve i wx => i = .int .i64 (bs.length : Nat) ∧ s = .string ⟨(cat bs).toArray⟩ ∧ wx.ownsRow w.heap.size 3 1 ve bs.length (endsV bs bs.length) ∧ Below w.heap.size w wx)
  case first =>
    go_wp2_with fail
    go_loopw [7, 8, 9] (fun s ve i wr => ∃ k : Nat, k ≤ bs.length ∧ i = .int .i64 k ∧ s = .string ⟨(cat (bs.take k)).toArray⟩ ∧ wr.ownsRow w.heap.size 3 1 ve k (endsV bs k) ∧ Below w.heap.size w wr) (fun _ _ i _ => 8 - (intOf i).toNat)
    case atStart =>
      refine ⟨0, Nat.zero_le _, rfl, rfl, ⟨rfl, .inr ⟨w.heap.size, 0, #[], rfl, Nat.le_refl _, heap_new _ _, Nat.le_refl _, Nat.zero_le _, rfl, rfl⟩⟩, (Below.refl _ _).alloc (Nat.le_refl _) _⟩
    case round =>
      obtain ⟨k, hk, rfl, rfl, hown, hb⟩ := hrel
      by_cases hlt : k < bs.length
      · have hkn : k < n := by omega
        have hk8 : k < 8 := by omega
        have q1 : (k : Int) < (n : Int) := by omega
        have q2 : (k : Int) < 8 := by omega
        obtain ⟨g, q, rfl, hcell⟩ := hL (by omega)
        have hc0 := hcell k hkn
        have hgl := World.block_lt_of_cell? _ _ hc0
        have hc := (hb.cell (p := ⟨g, q + k, none⟩) hgl).trans hc0
        obtain ⟨x, hx⟩ : ∃ x, xs.getD k ByteArray.empty = x := ⟨_, rfl⟩
        have hbk := hbget k hlt
        rw [hx] at hc hbk
        have hcat := cat_take_succ bs k hlt
        rw [hbk] at hcat
        have hEk : Hid (E bs (k + 1) = (cat (bs.take k) ++ frameL (x.data.toList.take 300)).length) := by show _ = _; unfold E; rw [hcat]
        have HCAT : Hid (cat (bs.take (k + 1)) = cat (bs.take k) ++ frameL (x.data.toList.take 300)) := hcat
        have hle1 := cat_le 300 (bs.take k) (fun b hb => hble b (List.mem_of_mem_take hb))
        rw [List.length_take] at hle1
        have hle2 : (cat (bs.take k)).length ≤ 2496 := by
          have : min k bs.length ≤ 8 := by omega
          exact Nat.le_trans hle1 (Nat.mul_le_mul_left _ this)
        clear hx hbk hcat hle1 hc0 hcell hL hbget
        obtain ⟨C, hC⟩ : ∃ C, cat (bs.take k) = C := ⟨_, rfl⟩
        rw [hC] at hEk HCAT hle2 ⊢
        clear hC
        go_wp2_with fail
        refine (few_any x wr).mono ?_
        rintro e w' ⟨t, rfl, ht, hts, rfl⟩
        go_wp2_with fail
        refine (rframe_any t (by omega) _).mono ?_
        rintro e w1 ⟨rfl, hb1⟩
        rw [← ht] at hEk HCAT
        have hfl : (frameL t.data.toList).length ≤ 312 := by rw [frameL_len, slen]; omega
        obtain ⟨F, hF⟩ : ∃ F, frameL t.data.toList = F := ⟨_, rfl⟩
        rw [hF] at hEk HCAT hfl ⊢
        have hcl : C.length + F.length ≤ 9223372036854775807 := by omega
        clear hF ht
        obtain ⟨T, hT⟩ : ∃ T : ByteArray, (⟨C.toArray⟩ : ByteArray) ++ ⟨F.toArray⟩ = T := ⟨_, rfl⟩
        have hTd : T = ⟨(C ++ F).toArray⟩ := by rw [← hT, str_add]
        obtain ⟨m, hm⟩ : ∃ m, T.size = m := ⟨_, rfl⟩
        have hm1 : (C ++ F).length = m := by rw [← hm, hTd]; rfl
        have HE : Hid (E bs (k + 1) = m) := by show _ = _; rw [hEk.out, hm1]
        have HS : Hid ((⟨(cat (bs.take (k + 1))).toArray⟩ : ByteArray) = T) := by show _ = _; rw [HCAT.out, hTd]
        have hm2 : m ≤ 1048576 := by rw [← hm1, List.length_append]; omega
        clear hTd hm1 hEk HCAT
        have hown1 : w1.ownsRow w.heap.size 3 1 _ k (endsV bs k) := ownsRow_below hown hb1
        have hb1' : Below w.heap.size w w1 := hb.trans (hb1.mono hb.size)
        have hs1 := hb1'.size
        have hml1 : k + 1 ≤ maxLen := Nat.le_trans (show k + 1 ≤ 1048576 by omega) (by decide)
        have hby : (k + 1) * 8 ≤ 140737488355328 := by omega
        go_wp2_with (at_builtin; refine wpList_append_own_at _ rfl _ _ 46 rfl w.heap.size 3 i0 _ 1 8 Tryd.underlying46 hi hz0 hz1 hz2 rfl (by decide) u8 k (endsV bs k) rfl (hown1.alloc _) ⟨w1.heap.size, 0, none⟩ 1 1 [.int .i64 (m : Nat)] rfl rfl (cell_one_new _ _ _) (by simp [Value.oneCell']) hml1 hby (by simp; omega) ?_; intro v' w2 hown' hgrow _ _; obtain ⟨g', cap', rfl⟩ := ownsRow_succ hown')
        go_roundw
        case rel =>
          have hb2 : Below w.heap.size w w2 := (hb1'.alloc hs1 _).grown hgrow (by simp; omega) (fun j ej => by
            rcases hown1.2 with ⟨rfl, _⟩ | ⟨g2, cap2, cur2, rfl, hgb, _, _⟩
            · simp [Value.ownBlock] at ej
            · have : g2 = j := by simpa [Value.ownBlock] using ej
              omega)
          refine ⟨k + 1, by omega, by go_num, by rw [HS.out], ?_, hb2⟩
          rw [endsV_succ, HE.out]
          exact hown'
        case measure => simp [intOf]; omega
      · obtain rfl : k = bs.length := by omega
        rw [List.take_length]
        have hmin := HB.out
        by_cases h8 : n ≤ 8
        · have q1 : ¬ (bs.length : Int) < (n : Int) := by omega
          clear hmin
          go_wp2_with fail
          go_meet
          case rel => exact ⟨rfl, rfl, hown, hb⟩
        · have q1 : (bs.length : Int) < (n : Int) := by omega
          have q2 : ¬ (bs.length : Int) < 8 := by omega
          clear hmin
          go_wp2_with fail
          go_meet
          case rel => exact ⟨rfl, rfl, hown, hb⟩
  case rest =>
    obtain ⟨rfl, rfl, hown, hb⟩ := hcut
    clear hL hbget
    obtain ⟨SS, hSS⟩ : ∃ SS : ByteArray, (⟨(cat bs).toArray⟩ : ByteArray) = SS := ⟨_, rfl⟩
    have HSS : Hid (SS.data.toList = cat bs) := by show _ = _; rw [← hSS]
    obtain ⟨L, hLL⟩ : ∃ L, SS.size = L := ⟨_, rfl⟩
    have HL : Hid ((cat bs).length = L) := by show _ = _; rw [← hLL, ← HSS.out]; rfl
    have hL1 : L ≤ 2496 := by
      rw [← HL.out]
      have h1 := cat_le 300 bs hble
      exact Nat.le_trans h1 (Nat.mul_le_mul_left _ (show bs.length ≤ 8 by omega))
    rw [hSS]
    clear hSS
    go_upto_if 45 with fail
    go_cut [10] (fun c10 wx => (∃ m : Nat, m ≤ L ∧ c10 = .int .i64 (m : Nat)) ∧ wx = wc)
    case first =>
      by_cases hz : 0 < L
      · have z1 : (0 : Int) < (L : Int) := by omega
        obtain ⟨m, hm, hme⟩ := mod_fit cut L hL1
        have HM : Hid ((wrap64 (wrap64 (cut.tmod ((L : Int) + 1) + L) + 1)).tmod ((L : Int) + 1) = m) := hme
        clear hme
        go_wp2
        go_meet
        case rel => exact ⟨⟨m, hm, by rw [HM.out]⟩, rfl⟩
      · have z1 : ¬ (0 : Int) < (L : Int) := by omega
        go_wp2_with fail
        go_meet
        case rel => exact ⟨⟨0, Nat.zero_le _, rfl⟩, rfl⟩
    case rest =>
      obtain ⟨⟨m, hm, rfl⟩, rfl⟩ := hcut
      obtain ⟨ea, ecap, rfl, hE⟩ := ownsRow_form hown
      go_upto_block 2 with fail
      go_cut [11] (fun c11 wx => (∃ j : Nat, j ≤ bs.length ∧ c11 = .int .i64 (j : Nat) ∧ (∀ i, i < j → E bs (i + 1) ≤ m) ∧ (j = bs.length ∨ m < E bs (j + 1))) ∧ wx = wc)
      case first =>
        go_wp2_with fail
        go_loopw [11] (fun c11 wx => (∃ j : Nat, j ≤ bs.length ∧ c11 = .int .i64 (j : Nat) ∧ (∀ i, i < j → E bs (i + 1) ≤ m)) ∧ wx = wc) (fun c _ => bs.length - (intOf c).toNat)
        case atStart => exact ⟨⟨0, Nat.zero_le _, rfl, fun i h => absurd h (by omega)⟩, rfl⟩
        case round =>
          obtain ⟨⟨j, hj, rfl, hall⟩, rfl⟩ := hrel
          by_cases hlt : j < bs.length
          · have q1 : (j : Int) < (bs.length : Int) := by omega
            obtain ⟨g, rfl, hgb, hcell⟩ := hE (by omega)
            have hc := hcell j _ (endsV_get bs bs.length j hlt)
            obtain ⟨ej, hej⟩ : ∃ x, E bs (j + 1) = x := ⟨_, rfl⟩
            rw [hej] at hc
            have HEJ : Hid (E bs (j + 1) = ej) := hej
            have HALL : Hid (∀ i, i < j → E bs (i + 1) ≤ m) := hall
            clear hej hcell hE hall
            by_cases hle : ej ≤ m
            · have q2 : (ej : Int) ≤ (m : Int) := by omega
              go_wp2
              go_roundw
              case rel =>
                refine ⟨⟨j + 1, by omega, by go_num, fun i hi => ?_⟩, trivial⟩
                by_cases hij : i < j
                · exact HALL.out i hij
                · obtain rfl : i = j := by omega
                  rw [HEJ.out]; exact hle
              case measure => simp [intOf]; omega
            · have q2 : ¬ (ej : Int) ≤ (m : Int) := by omega
              go_wp2
              go_meet
              case rel => exact ⟨⟨j, hj, rfl, HALL.out, .inr (by rw [HEJ.out]; omega)⟩, rfl⟩
          · obtain rfl : j = bs.length := by omega
            have q1 : ¬ (bs.length : Int) < (bs.length : Int) := by omega
            go_wp2
            go_meet
            case rel => exact ⟨⟨bs.length, Nat.le_refl _, rfl, hall, .inl rfl⟩, rfl⟩
      case rest =>
        obtain ⟨⟨j, hj, rfl, hall, hfin⟩, rfl⟩ := hcut
        have hGc := hG.later rfl hb
        have HSC := scan_torn SS bs m j (by omega) HSS.out hble hj hall hfin wc hGc
        clear hall hfin
        obtain ⟨ej, hej⟩ : ∃ x, E bs j = x := ⟨_, rfl⟩
        rw [hej] at HSC
        have q0 : (0 : Int) ≤ (m : Int) := by omega
        have q1 : (m : Int) ≤ (L : Int) := by omega
        go_wp2_with fail
        refine HSC.mono ?_
        clear HSC
        rintro e w2 ⟨v, rfl, hr2, hb2⟩
        obtain ⟨ga, gcap, rfl, _⟩ := ownsRow_form hr2
        have hG2 := hGc.later rfl hb2
        have hb2' : Below w.heap.size w w2 := hb.trans (hb2.mono hb.size)
        clear hr2
        go_upto_region 14 with fail
        go_cut [108] (fun c wx => c = .bool false ∧ Below w2.heap.size w2 wx)
        case first =>
          go_wp2_with fail
          refine (awake_any w2 hG2).mono ?_
          rintro e w3 ⟨rfl, hb3⟩
          by_cases hj0 : 0 < j
          · obtain ⟨g, rfl, hgb, hcell⟩ := hE (by omega)
            have hc := hcell (j - 1) _ (endsV_get bs bs.length (j - 1) (by omega))
            rw [show j - 1 + 1 = j by omega, hej] at hc
            have hgl := World.block_lt_of_cell? _ _ hc
            have hc3 := (hb3.cell (p := ⟨g, j - 1, none⟩) (Nat.lt_of_lt_of_le hgl hb2.size)).trans ((hb2.cell (p := ⟨g, j - 1, none⟩) hgl).trans hc)
            have t1 : (0 : Int) < (j : Int) := by omega
            have t2 : IntKind.i64.wrap ((j : Int) - 1) = ((j - 1 : Nat) : Int) := by rw [IntKind.wrap_i64]; omega
            have t3 : ((j - 1 : Nat) : Int) < (bs.length : Int) := by omega
            have t4 : ¬ (j : Int) = 0 := by omega
            obtain ⟨j1, hj1⟩ : ∃ j1, j - 1 = j1 := ⟨_, rfl⟩
            rw [hj1] at hc3 t2 t3
            clear hc hcell hE hej hj1
            go_wp2
            go_meet
            case rel => exact ⟨rfl, hb3⟩
          · obtain rfl : j = 0 := by omega
            obtain rfl : ej = 0 := by rw [← hej]; rfl
            go_wp2
            go_meet
            case rel => exact ⟨rfl, hb3⟩
        case rest =>
          obtain ⟨rfl, hb3⟩ := hcut
          by_cases hz : 0 < L
          · have z1 : ¬ (L : Int) = 0 := by omega
            obtain ⟨kk, hkk, hke⟩ := mod_fit2 at_ L hz hL1
            have hkS : kk < SS.size := by omega
            obtain ⟨y, hy⟩ : ∃ y, SS[kk] ^^^ 1 = y := ⟨_, rfl⟩
            have hxor : bits BinOp.xor IntKind.u8 (SS[kk].toNat : Int) 1 = (y.toNat : Int) := by rw [← hy]; exact xor1 _
            have HY : Hid (y ≠ (cat bs).getD kk 0) := by
              show _ ≠ _
              rw [← HSS.out, byte_get SS kk hkS, ← hy]; exact xor1_ne _
            have hG3 := hG2.later rfl hb3
            have HGD := flip_good bs [] kk y (fun b hb' => Nat.le_trans (hble b hb') (by omega)) (by rw [HL.out]; exact hkk) HY.out
            have hfl := flip_list SS kk y hkS
            rw [HSS.out] at hfl
            have HS2 := fun (w' : World) (h' : GL w') => scan_any (SS.extract 0 kk ++ (⟨#[y]⟩ : ByteArray) ++ SS.extract (kk + 1) SS.size) (by rw [flip_size SS kk y hkS]; omega) w' h'
            rw [hfl] at HS2
            simp only [List.nil_append, List.length_nil] at HGD
            obtain ⟨BL, hBL⟩ : ∃ BL, scanL ((cat bs).set kk y) 0 = BL := ⟨_, rfl⟩
            have HBLL : Hid (BL.length ≤ 1048576) := by
              show _ ≤ _
              rw [← hBL]
              have h1 := scanF_len ((cat bs).set kk y) (((cat bs).set kk y).length - 0) 0
              rw [List.length_set, HL.out] at h1
              unfold scanL
              rw [List.length_set, HL.out]
              omega
            rw [hBL] at HS2 HGD
            clear hy hBL hfl
            rw [hLL] at HS2
            have hcv := conv_row (W := (wc.alloc (.cells (bcs [y]) 5)).drew) (g := wc.heap.size) (l := [y]) (t := 5) (fr := (0, 0)) (heap_new wc _) 1 1 rfl
            have hcv' : (convert 32 9 (.slice (some ⟨wc.heap.size, 0, none⟩) 1 1)).run Tryd.prog ((wc.alloc (.cells #[.int .u8 (y.toNat : Int)] 5)).drew) = .ok (.string ⟨#[y]⟩) ((wc.alloc (.cells #[.int .u8 (y.toNat : Int)] 5)).drew) := hcv
            clear hcv
            have k0 : (0 : Int) ≤ (kk : Int) := by omega
            have k1 : (kk : Int) < (L : Int) := by omega
            have k2 : (kk : Int) ≤ (L : Int) := by omega
            have k3 : (kk : Int) + 1 ≤ (L : Int) := by omega
            have k4 : IntKind.i64.wrap ((kk : Int) + 1) = (kk : Int) + 1 := by rw [IntKind.wrap_i64]; omega
            have k5 : (0 : Int) ≤ (kk : Int) + 1 := by omega
            have k6 : ((kk : Int) + 1).toNat = kk + 1 := by omega
            have hG4 : GL ((wc.alloc (.cells #[.int .u8 (y.toNat : Int)] 5)).drew) := GL.later hG3 rfl (((Below.refl _ _).alloc (Nat.le_refl _) _).drew)
            have hb4 : Below wc.heap.size wc ((wc.alloc (.cells #[.int .u8 (y.toNat : Int)] 5)).drew) := ((Below.refl _ wc).alloc (Nat.le_refl _) _).drew
            go_wp2_with fail
            go_region_with (go_at_call 15; refine (HS2 _ hG4).mono ?_; rintro e w5 ⟨v, rfl, hr5, hb5⟩)
            simp only [List.getElem_toArray, List.getElem_cons_succ, List.getElem_cons_zero, Act.put, List.setIfInBounds_toArray, List.set_cons_zero, List.set_cons_succ]
            obtain ⟨va, vcap, rfl, hV⟩ := ownsRow_form hr5
            have hb5' : Below w.heap.size w w5 := (hb2'.trans (hb3.mono hb2'.size)).trans ((hb4.mono (by have := hb2'.size; have := hb3.size; omega)).trans (hb5.mono (by have := hb2'.size; have := hb3.size; have := hb4.size; omega)))
            clear HS2 hr5 hb5 hb4 hG4 hb3 hb2' hb2 hcv' hxor hG2 hG3 hE hown hb hGc
            have hBl : (BL.length : Int) ≤ 9223372036854775807 := by
              have := HBLL.out
              omega
            go_wp2_with fail
            go_loopw [17, 18] (fun c17 c18 wx => (∃ t : Nat, t ≤ BL.length ∧ c18 = .int .i64 (t : Nat) ∧ c17 = .int .i64 (goodN (BL.take t) : Nat)) ∧ wx = w5) (fun _ c _ => BL.length - (intOf c).toNat)
            case atStart => exact ⟨⟨0, Nat.zero_le _, rfl, rfl⟩, rfl⟩
            case round =>
              obtain ⟨⟨t, ht, rfl, rfl⟩, rfl⟩ := hrel
              by_cases hlt : t < BL.length
              · have t1 : (t : Int) < (BL.length : Int) := by omega
                obtain ⟨g, rfl, hgb, hcell⟩ := hV (by omega)
                have hc := hcell (t * 3 + 2) _ (cellsOf_get BL t hlt)
                have HN : Hid (goodN (BL.take (t + 1)) = goodN (BL.take t) + (if (BL.getD t ⟨0, [], false⟩).good then 1 else 0)) := goodN_succ BL t hlt
                have hgn : goodN (BL.take t) ≤ 1048576 := by
                  have h1 := goodN_le (BL.take t)
                  rw [List.length_take] at h1
                  have := HBLL.out
                  omega
                obtain ⟨gn, hgn0⟩ : ∃ x, goodN (BL.take t) = x := ⟨_, rfl⟩
                rw [hgn0] at HN hgn ⊢
                clear hgn0 hV hcell
                cases hg : (BL.getD t ⟨0, [], false⟩).good with
                | true =>
                  rw [hg] at hc HN
                  clear hg
                  go_wp2
                  go_roundw
                  case rel => exact ⟨⟨t + 1, by omega, by go_num, by rw [HN.out]; simp⟩, trivial⟩
                  case measure => simp [intOf]; omega
                | false =>
                  rw [hg] at hc HN
                  clear hg
                  go_wp2
                  go_roundw
                  case rel => exact ⟨⟨t + 1, by omega, by go_num, by rw [HN.out]; simp⟩, trivial⟩
                  case measure => simp [intOf]; omega
              · obtain rfl : t = BL.length := by omega
                have t1 : ¬ (BL.length : Int) < (BL.length : Int) := by omega
                rw [List.take_length]
                have t2 : ((goodN BL : Nat) : Int) < (bs.length : Int) := by omega
                go_wp2
                go_ret
                exact ⟨by simp, hb5'⟩
          · obtain rfl : L = 0 := by omega
            go_wp2
            go_ret
            exact ⟨rfl, hb2'.trans (hb3.mono hb2'.size)⟩
end Go.Proofs.YthhjaploldhdaaaDoor
