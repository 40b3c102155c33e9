/- Without, called. -/
import Derived.Test.YtaocbkloafhmeaaDoorBat
import Derived.Deep.RegionWith
namespace Go.Proofs.YtaocbkloafhmeaaDoor
open Go.RowKit
def updR (R : Nat → Rv) (k : Nat) (b : ByteArray) (g : Bool) : Nat → Rv := fun i => if i = k then { R k with b := b, g := g } else R i
theorem upd_cs (R : Nat → Rv) (k : Nat) (b : ByteArray) (g : Bool) (i j : Nat) (hj : j < 8) :
    (updR R k b g i).cs[j]? = if i = k ∧ j = 6 then some (.string b) else if i = k ∧ j = 7 then some (.bool g) else (R i).cs[j]? := by
  unfold updR
  by_cases h : i = k
  · subst h
    obtain rfl | rfl | rfl | rfl | rfl | rfl | rfl | rfl : j = 0 ∨ j = 1 ∨ j = 2 ∨ j = 3 ∨ j = 4 ∨ j = 5 ∨ j = 6 ∨ j = 7 := by omega
    all_goals simp [Rv.cs]
  · simp [h]
theorem Rowd.upd {w : World} {g n T k : Nat} {R : Nat → Rv} (h : Rowd w g n T R) (hk : k < n) (b : ByteArray) (gg : Bool) :
    Rowd ((w.setCell ⟨g, k * 8 + 6, none⟩ (.string b)).setCell ⟨g, k * 8 + 7, none⟩ (.bool gg)) g n T (updR R k b gg) ∧
    Rowd ((w.setCell ⟨g, k * 8 + 7, none⟩ (.bool gg)).setCell ⟨g, k * 8 + 6, none⟩ (.string b)) g n T (updR R k b gg) := by
  obtain ⟨cur, h1, h2⟩ := h.ex
  have hsz : ∀ i j, i < n → j < 8 → i * 8 + j < cur.size := fun i j hi hj => by
    have := h2 i j hi hj
    have hc : (R i).cs.size = 8 := rfl
    have h3 := Array.getElem?_eq_getElem (xs := (R i).cs) (i := j) (by omega)
    rw [h3] at this
    exact (Array.getElem?_eq_some_iff.1 this).1
  have e6 := hsz k 6 hk (by omega)
  have e7 := hsz k 7 hk (by omega)
  have key : ∀ i j, i < n → j < 8 → (if i * 8 + j = k * 8 + 6 then some (.string b) else if i * 8 + j = k * 8 + 7 then some (.bool gg) else cur[i * 8 + j]?) = (updR R k b gg i).cs[j]? := fun i j hi hj => by
    rw [upd_cs R k b gg i j hj, h2 i j hi hj]
    by_cases a : i = k ∧ j = 6
    · rw [if_pos a, if_pos (by omega)]
    · rw [if_neg a, if_neg (by omega)]
      by_cases c : i = k ∧ j = 7
      · rw [if_pos c, if_pos (by omega)]
      · rw [if_neg c, if_neg (by omega)]
  refine ⟨⟨_, row_setCell (row_setCell h1 _) _, fun i j hi hj => ?_⟩, ⟨_, row_setCell (row_setCell h1 _) _, fun i j hi hj => ?_⟩⟩
  · rw [← key i j hi hj, Array.getElem?_setIfInBounds, Array.getElem?_setIfInBounds]
    by_cases a : i * 8 + j = k * 8 + 6
    · rw [if_pos a, if_neg (by omega), if_pos a.symm, if_pos (by first | omega | (simp; omega))]
    · rw [if_neg a, if_neg (Ne.symm a)]
      by_cases c : i * 8 + j = k * 8 + 7
      · rw [if_pos c, if_pos c.symm, if_pos (by first | omega | (simp; omega))]
      · rw [if_neg c, if_neg (Ne.symm c)]
  · rw [← key i j hi hj, Array.getElem?_setIfInBounds, Array.getElem?_setIfInBounds]
    by_cases a : i * 8 + j = k * 8 + 6
    · rw [if_pos a, if_pos a.symm, if_pos (by first | omega | (simp; omega))]
    · rw [if_neg a, if_neg (Ne.symm a)]
      by_cases c : i * 8 + j = k * 8 + 7
      · rw [if_pos c, if_pos c.symm, if_pos (by omega)]
      · rw [if_neg c, if_neg (Ne.symm c)]
theorem updR_fit {R : Nat → Rv} {n k : Nat} (h : ∀ i, i < n → (R i).fit) (hk : k < n) {b : ByteArray} (hb : b.size ≤ 1125899906842624) (g : Bool) : ∀ i, i < n → (updR R k b g i).fit := by
  intro i hi
  unfold updR
  split
  · have := h k hk
    exact ⟨this.op0, this.op1, this.d, this.v, this.t, this.f, this.h, hb⟩
  · exact h i hi
theorem results_row_tmp {P : Program} {fn : Func} {p q : Tmp} {ty : TypeId} (h : fn.results = #[.cell p ty, .tmp q]) (tmps : Array Value) (w : World) (g : Nat) (t : TypeId) (cs : Array Value) (fr : Nat × Nat) (d : TypeDesc)
    (hp : tmps.getD p undef = .pointer (some ⟨g, 0, none⟩)) (hg : w.heap[g]? = some (.cells cs t fr))
    (hu : P.underlying ty = some d) (hd : (match d with | .struct _ | .array _ _ => true | _ => false) = true) (hi : (P.info? ty).map (·.size) = some cs.size) :
    (results fn tmps).run P w = .ok (.tuple #[.agg cs, tmps.getD q undef]) w := by
  have hp' : tmps[p]?.getD undef = .pointer (some ⟨g, 0, none⟩) := by simpa using hp
  simp [results, h, hp', asAddr, run_loadVar_row w g t ty cs fr d hg hu hd hi]
def outB (n : Nat) (R : Nat → Rv) (k : Int) : Bool := bodAt n R k && !(R k.toNat).g
def outX (x : Bk) (k : Int) : Bk := if outB x.n x.R k then { x with R := updR x.R k.toNat ⟨#[]⟩ true } else x
def outE (x : Bk) (k : Int) : Int := if outB x.n x.R k then 0 else 1
set_option maxRecDepth 100000 in
set_option maxHeartbeats 4000000 in
theorem without_any (x : Bk) (hn : x.n ≤ 66) (k : Int) (p : Option Addr) (c : Nat) (w : World) (hX : Revs w p x.n c x.R) :
    Calls Tryd.prog 32 #[x.val p c, .int .i64 k] w fun e w' => ∃ q d, e = .returned (.tuple #[(outX x k).val q d, .int .i64 (outE x k)]) ∧ Revs w' q x.n d (outX x k).R ∧ Below w.heap.size w w' := by
  have hown := fun W hX => own_any x hn p c W hX
  have hbat := fun W q d hX => bat_any x k q d W hX
  have hB : bodAt x.n x.R k = true → 0 ≤ k ∧ k < (x.n : Int) := fun h => by
    unfold bodAt at h
    simp only [Bool.and_eq_true, decide_eq_true_eq] at h
    exact ⟨h.1.1, h.1.2⟩
  have hXv : ∀ q d, (outX x k).val q d = .agg #[.int .u64 (x.seq : Int), .string x.prev, .int .u64 (x.tx : Int), .slice q x.n d] := fun q d => by unfold outX; split <;> rfl
  have hXR : (outX x k).R = if outB x.n x.R k then updR x.R k.toNat ⟨#[]⟩ true else x.R := by unfold outX; split <;> rfl
  have hE : outE x k = if outB x.n x.R k then 0 else 1 := rfl
  have hO : outB x.n x.R k = (bodAt x.n x.R k && !(x.R k.toNat).g) := rfl
  simp only [hXv]
  rw [hXR, hE, hO]
  clear hXv hXR hE hO
  obtain ⟨seq, prev, tx, n, R⟩ := x
  simp only at hn hX hown hbat hB ⊢
  have hv : ∀ q d, (Bk.mk seq prev tx n R).val q d = .agg #[.int .u64 (seq : Int), .string prev, .int .u64 (tx : Int), .slice q n d] := fun _ _ => rfl
  simp only [hv] at hown hbat ⊢
  clear hv
  obtain ⟨A, hA⟩ : ∃ A, bodAt n R k = A := ⟨_, rfl⟩
  rw [hA] at hbat hB ⊢
  clear hA
  have b0 : ∀ o o', Below w.heap.size w ((w.alloc o).alloc o') := fun o o' => ((Below.refl _ w).alloc (Nat.le_refl _) _).alloc (by simp) _
  obtain ⟨Po, hPo⟩ : ∃ Po : Ending → World → Prop, Po = fun e w' => ∃ q d, e = .returned (.tuple #[.agg #[.int .u64 (seq : Int), .string prev, .int .u64 (tx : Int), .slice q n d], .int .i64 (if (A && !(R k.toNat).g) = true then 0 else 1)]) ∧ Revs w' q n d (if (A && !(R k.toNat).g) = true then updR R k.toNat ⟨#[]⟩ true else R) ∧ Below w.heap.size w w' := ⟨_, rfl⟩
  rw [← hPo]
  have HPo : Hid (Po = fun e w' => ∃ q d, e = .returned (.tuple #[.agg #[.int .u64 (seq : Int), .string prev, .int .u64 (tx : Int), .slice q n d], .int .i64 (if (A && !(R k.toNat).g) = true then 0 else 1)]) ∧ Revs w' q n d (if (A && !(R k.toNat).g) = true then updR R k.toNat ⟨#[]⟩ true else R) ∧ Below w.heap.size w w') := hPo
  clear hPo
  go_enter Tryd.func32, Tryd.ntmps32
  go_wp2_with fail
  refine (hown _ (hX.later (b0 _ _))).mono ?_
  rintro e w2 ⟨q, d, rfl, hM, hb2⟩
  have hsz2 := hb2.size
  simp only [World.size_alloc] at hsz2
  have hrow := (hb2.block w.heap.size (by simp; omega)).trans ((Below.heap_alloc _ _ _ (by simp)).trans (heap_alloc_new w (.cells #[.int .u64 (seq : Int), .string prev, .int .u64 (tx : Int), .slice p n c] 38)))
  have hres := (hb2.block (w.heap.size + 1) (by simp)).trans (two_new w _ _)
  have b2 : Below w.heap.size w w2 := (b0 _ _).trans (hb2.mono (by simp; omega))
  have c0 := cell_of_row w2 _ 0 _ _ _ hrow
  have c1 := cell_of_row w2 _ 1 _ _ _ hrow
  have c2 := cell_of_row w2 _ 2 _ _ _ hrow
  have c3 := cell_of_row w2 _ 3 _ _ _ hrow
  have f0 := frozen_of_row w2 _ 0 _ _ hrow
  have f1 := frozen_of_row w2 _ 1 _ _ hrow
  have f2 := frozen_of_row w2 _ 2 _ _ hrow
  have f3 := frozen_of_row w2 _ 3 _ _ hrow
  have hM2 : Mine w2 q n d (w.heap.size + 2) R := hM.down (by simp)
  go_wp2_with fail
  have hw3 := set4_row hrow (.int .u64 (seq : Int)) (.string prev) (.int .u64 (tx : Int)) (.slice q n d)
  have hs3 := set4_size w2 w.heap.size (.int .u64 (seq : Int)) (.string prev) (.int .u64 (tx : Int)) (.slice q n d)
  have hM3 : Mine (set4 w2 w.heap.size (.int .u64 (seq : Int)) (.string prev) (.int .u64 (tx : Int)) (.slice q n d)) q n d (w.heap.size + 2) R := hM2.kept (by omega) (fun g hg _ => set4_block _ _ _ _ _ _ _ (by omega))
  have hr3 : (set4 w2 w.heap.size (.int .u64 (seq : Int)) (.string prev) (.int .u64 (tx : Int)) (.slice q n d)).heap[w.heap.size + 1]? = _ := (set4_block _ _ _ _ _ _ _ (by omega)).trans hres
  have b3 := set4_below b2 w.heap.size (Nat.le_refl _) (.int .u64 (seq : Int)) (.string prev) (.int .u64 (tx : Int)) (.slice q n d)
  obtain ⟨w3, hw⟩ : ∃ w3, set4 w2 w.heap.size (.int .u64 (seq : Int)) (.string prev) (.int .u64 (tx : Int)) (.slice q n d) = w3 := ⟨_, rfl⟩
  have hw' : (((w2.setCell ⟨w.heap.size, 0, none⟩ (.int .u64 (seq : Int))).setCell ⟨w.heap.size, 1, none⟩ (.string prev)).setCell ⟨w.heap.size, 2, none⟩ (.int .u64 (tx : Int))).setCell ⟨w.heap.size, 3, none⟩ (.slice q n d) = w3 := hw
  rw [hw] at hw3 hs3 hM3 hr3 b3
  rw [hw']
  clear hw hw' c0 c1 c2 c3 f0 f1 f2 f3 hrow hres hM hM2 b2
  refine (hbat w3 q d hM3.revs).mono ?_
  rintro e w4 ⟨rfl, hb4⟩
  have hrow := (hb4.block w.heap.size (by omega)).trans hw3
  have hres := (hb4.block (w.heap.size + 1) (by omega)).trans hr3
  have hM4 := hM3.later hb4
  have b4 := b3.trans (hb4.mono (by omega))
  have hsz4 := hb4.size
  have c0 := cell_of_row w4 _ 0 _ _ _ hrow
  have c1 := cell_of_row w4 _ 1 _ _ _ hrow
  have c2 := cell_of_row w4 _ 2 _ _ _ hrow
  have c3 := cell_of_row w4 _ 3 _ _ _ hrow
  have r0 := cell_of_row w4 _ 0 _ _ _ hres
  have r1 := cell_of_row w4 _ 1 _ _ _ hres
  have r2 := cell_of_row w4 _ 2 _ _ _ hres
  have r3 := cell_of_row w4 _ 3 _ _ _ hres
  have s0 := frozen_of_row w4 _ 0 _ _ hres
  have s1 := frozen_of_row w4 _ 1 _ _ hres
  have s2 := frozen_of_row w4 _ 2 _ _ hres
  have s3 := frozen_of_row w4 _ 3 _ _ hres
  clear hw3 hr3 hM3 b3 hb4
  cases A with
  | false =>
    go_wp2
    have h := set4_row hres (.int .u64 (seq : Int)) (.string prev) (.int .u64 (tx : Int)) (.slice q n d)
    refine bodyPost_ret (v := .tuple #[.agg #[.int .u64 (seq : Int), .string prev, .int .u64 (tx : Int), .slice q n d], .int .i64 1]) (results_row_tmp Tryd.results32 _ _ (w.heap.size + 1) 38 _ (0, 0) _ rfl h Tryd.underlying38 rfl (by kernel_rfl)) rfl ?_
    rw [HPo.out]
    exact ⟨q, d, rfl, (hM4.kept (w' := set4 w4 (w.heap.size + 1) (.int .u64 (seq : Int)) (.string prev) (.int .u64 (tx : Int)) (.slice q n d)) (by rw [set4_size]; omega) (fun g hg _ => set4_block _ _ _ _ _ _ _ (by omega))).revs, set4_below b4 _ (by omega) _ _ _ _⟩
  | true =>
    obtain ⟨k0, k1⟩ := hB rfl
    obtain ⟨i, rfl⟩ : ∃ i : Nat, k = (i : Int) := ⟨k.toNat, by omega⟩
    have him : i < n := by omega
    have hcap := hM4.revs.cap
    have hfit := hM4.revs.fit
    have hm : maxLen = 9223372036854775807 := rfl
    obtain ⟨g, rfl, hR, hg⟩ := hM4.row (by omega)
    obtain ⟨cur, hcur, hcc⟩ := hR.ex
    have hgl := lt_of_row hcur
    have e6 : w4.cell? ⟨g, i * 8 + 6, none⟩ = some (.string (R i).b) := by rw [cell_of_row w4 g _ _ _ _ hcur, hcc i 6 him (by omega)]; rfl
    have e7 : w4.cell? ⟨g, i * 8 + 7, none⟩ = some (.bool (R i).g) := by rw [cell_of_row w4 g _ _ _ _ hcur, hcc i 7 him (by omega)]; rfl
    have f6 := frozen_of_row w4 _ (i * 8 + 6) _ _ hcur
    have f7 := frozen_of_row w4 _ (i * 8 + 7) _ _ hcur
    have hup := hR.upd him ⟨#[]⟩ true
    have HT : Hid (((i : Int)).toNat = i) := show ((i : Int)).toNat = i from rfl
    obtain ⟨G, hG⟩ : ∃ G, (R i).g = G := ⟨_, rfl⟩
    rw [hG] at e7
    have HG : Hid ((R i).g = G) := hG
    clear hG
    cases G with
    | true =>
      go_wp2
      have h := set4_row hres (.int .u64 (seq : Int)) (.string prev) (.int .u64 (tx : Int)) (.slice (some ⟨g, 0, none⟩) n d)
      refine bodyPost_ret (v := .tuple #[.agg #[.int .u64 (seq : Int), .string prev, .int .u64 (tx : Int), .slice (some ⟨g, 0, none⟩) n d], .int .i64 1]) (results_row_tmp Tryd.results32 _ _ (w.heap.size + 1) 38 _ (0, 0) _ rfl h Tryd.underlying38 rfl (by kernel_rfl)) rfl ?_
      rw [HPo.out, HT.out, HG.out]
      exact ⟨some ⟨g, 0, none⟩, d, rfl, (hM4.kept (w' := set4 w4 (w.heap.size + 1) (.int .u64 (seq : Int)) (.string prev) (.int .u64 (tx : Int)) (.slice (some ⟨g, 0, none⟩) n d)) (by rw [set4_size]; omega) (fun g hg _ => set4_block _ _ _ _ _ _ _ (by omega))).revs, set4_below b4 _ (by omega) _ _ _ _⟩
    | false =>
      have fin : ∀ W Y, set4 W (w.heap.size + 1) (.int .u64 (seq : Int)) (.string prev) (.int .u64 (tx : Int)) (.slice (some ⟨g, 0, none⟩) n d) = Y → Rowd W g n 24 (updR R i ⟨#[]⟩ true) → Below w.heap.size w W → W.heap[w.heap.size + 1]? = w4.heap[w.heap.size + 1]? → ∀ a : Act, a.defers = [] → a.tmps.getD 4 undef = .pointer (some ⟨w.heap.size + 1, 0, none⟩) → a.tmps.getD 5 undef = .int .i64 0 → bodyPost Tryd.prog Tryd.f32 Po Exit.ret a Y.drew := by
        intro W Y hY h1 h2 h4 a h5 h6 h7
        have h := set4_row (h4.trans hres) (.int .u64 (seq : Int)) (.string prev) (.int .u64 (tx : Int)) (.slice (some ⟨g, 0, none⟩) n d)
        have hk := set4_block W (w.heap.size + 1) (.int .u64 (seq : Int)) (.string prev) (.int .u64 (tx : Int)) (.slice (some ⟨g, 0, none⟩) n d) g (by omega)
        have hbY := set4_below h2 (w.heap.size + 1) (by omega) (.int .u64 (seq : Int)) (.string prev) (.int .u64 (tx : Int)) (.slice (some ⟨g, 0, none⟩) n d)
        rw [hY] at h hk hbY
        clear hY h4
        have hr := results_row_tmp (P := Tryd.prog) Tryd.results32 a.tmps Y.drew (w.heap.size + 1) 38 _ (0, 0) _ h6 h Tryd.underlying38 rfl (by kernel_rfl)
        rw [h7] at hr
        refine bodyPost_ret hr h5 ?_
        rw [HPo.out, HT.out, HG.out]
        exact ⟨some ⟨g, 0, none⟩, d, rfl, (h1.kept (w' := Y.drew) hk).revs hcap (updR_fit hfit him (by decide) true), hbY.drew⟩
      have hne : ¬ g = w.heap.size + 1 := by omega
      have hne2 : ¬ g = w.heap.size := by omega
      go_wp2_with fail
      go_region
      all_goals
        go_wp2
        refine fin ((w4.setCell ⟨g, i * 8 + 6, none⟩ (.string ⟨#[]⟩)).setCell ⟨g, i * 8 + 7, none⟩ (.bool true)) _ (by unfold set4; rfl) hup.1 ((b4.setCell (p := ⟨g, i * 8 + 6, none⟩) (by simp; omega) _).setCell (p := ⟨g, i * 8 + 7, none⟩) (by simp; omega) _) ?_ _ rfl rfl rfl
        rw [Below.heap_setCell _ _ _ _ (by simp; omega), Below.heap_setCell _ _ _ _ (by simp; omega)]
end Go.Proofs.YtaocbkloafhmeaaDoor
