/- The keys of a node with kids that are in a span, handed to a loop's body one behind the other. -/
import Derived.Test.YtiplmlalhmldbaaNdl
import Derived.Test.YtiplmlalhmldbaaRng
namespace Go.Proofs.Ytiplmlalhmldbaa
open Go.RowKit Go.Shelf
attribute [local go_sem] Oper.semAt_some
def spI (xs : List Im) (kd : Nat → List Im) (lo hi : ByteArray) : Nat → Nat → List Im
  | i, 0 => kd i
  | i, f + 1 => kd i ++ (if hasB lo hi (xs[i]!).1 = true then xs[i]! :: spI xs kd lo hi (i + 1) f else [])
theorem spI_end {xs : List Im} {kd : Nat → List Im} {lo hi : ByteArray} : spI xs kd lo hi xs.length (xs.length - xs.length) = kd xs.length := by rw [Nat.sub_self]; rfl
theorem spI_no {xs : List Im} {kd : Nat → List Im} {lo hi : ByteArray} {i : Nat} (h : i < xs.length) (hn : hasB lo hi (xs[i]!).1 = false) : spI xs kd lo hi i (xs.length - i) = kd i := by
  rw [show xs.length - i = (xs.length - (i + 1)) + 1 by omega]
  unfold spI
  rw [hn, if_neg (by decide), List.append_nil]
theorem spI_yes {xs : List Im} {kd : Nat → List Im} {lo hi : ByteArray} {i : Nat} (h : i < xs.length) (hn : hasB lo hi (xs[i]!).1 = true) : spI xs kd lo hi i (xs.length - i) = kd i ++ xs[i]! :: spI xs kd lo hi (i + 1) (xs.length - (i + 1)) := by
  rw [show xs.length - i = (xs.length - (i + 1)) + 1 by omega]
  conv => lhs; unfold spI
  rw [hn, if_pos rfl]
theorem spI_kid (xs : List Im) (kd : Nat → List Im) (lo hi : ByteArray) (i f : Nat) : ∃ r, spI xs kd lo hi i f = kd i ++ r := by
  cases f with
  | zero => exact ⟨[], (List.append_nil _).symm⟩
  | succ f => exact ⟨_, rfl⟩
/- What span answers for a kid. -/
def RgV (B : Nat) (a b : Value) (lo hi : ByteArray) (v : Value) (W : World) : Prop := ∃ bn bs, v = .func (.func 38) #[] #[.pointer (some ⟨bn, 0, none⟩), .pointer (some ⟨bs, 0, none⟩)] ∧ B ≤ bn ∧ B ≤ bs ∧ W.heap[bn]? = some (.cells #[a, b] 59 (0, 0)) ∧ W.heap[bs]? = some (.cells #[.string lo, .string hi] 24 (0, 0))
theorem RgV.later {B : Nat} {a b : Value} {lo hi : ByteArray} : ∀ v W W', RgV B a b lo hi v W → Below W.heap.size W W' → RgV B a b lo hi v W' := fun _ _ _ ⟨bn, bs, h1, h2, h3, h4, h5⟩ hb => ⟨bn, bs, h1, h2, h3, (hb.block _ (lt_of_row h4)).trans h4, (hb.block _ (lt_of_row h5)).trans h5⟩
theorem span_rg (p : Option Addr) (n c : Nat) (q : Option Addr) (m d : Nat) (lo hi : ByteArray) (B : Nat) (W : World) (hB : B ≤ W.heap.size) :
    Calls Try.prog 31 #[.agg #[.slice p n c, .slice q m d], .agg #[.string lo, .string hi]] W fun e w' => ∃ v, e = .returned v ∧ RgV B (.slice p n c) (.slice q m d) lo hi v w' ∧ Below W.heap.size W w' := by
  refine (span_any (.slice p n c) (.slice q m d) rfl rfl _ _ _ _ _ _ rfl rfl lo hi W).mono ?_
  rintro e w' ⟨rfl, rfl⟩
  obtain ⟨h1, h2⟩ := span_rows W #[.slice p n c, .slice q m d] #[.string lo, .string hi] 59 24
  exact ⟨_, rfl, ⟨_, _, rfl, hB, by omega, h1, h2⟩, ((Below.refl _ W).alloc (Nat.le_refl _) _).alloc (by simp) _⟩
/- Marks that ranges left among the deferred calls. -/
def mark (r : Nat) : Deferred := { target := .collected r, args := #[] }
def Mk (B : Nat) (ds : List Deferred) (w : World) : Prop := ∃ rs : List Nat, ds = rs.map mark ∧ rs.Nodup ∧ ∀ r ∈ rs, B ≤ r ∧ w.heap[r]? = some (.deferred (some []))
theorem Mk.nil (B : Nat) (w : World) : Mk B [] w := ⟨[], rfl, List.nodup_nil, fun r hr => by cases hr⟩
theorem Mk.kc {B : Nat} {ds : List Deferred} {A D : World} {C : Nat → Prop} (h : Mk B ds A) (k : KC C A D) (hC : ∀ k, C k → k < B) : Mk B ds D := by
  obtain ⟨rs, h1, h2, h3⟩ := h
  refine ⟨rs, h1, h2, fun r hr => ?_⟩
  obtain ⟨h4, h5⟩ := h3 r hr
  exact ⟨h4, (k.block r (Array.getElem?_eq_some_iff.1 h5).1 (fun hc => by have := hC _ hc; omega)).trans h5⟩
theorem Mk.push {B : Nat} {ds : List Deferred} {A D : World} {C : Nat → Prop} (h : Mk B ds A) (hBA : B ≤ A.heap.size) (k : KC (fun k => C k ∨ A.heap.size ≤ k) A D) (hC : ∀ k, C k → k < B) (hD : D.heap[A.heap.size]? = some (.deferred (some []))) : Mk B ({ target := .collected A.heap.size, args := #[] } :: ds) D := by
  obtain ⟨rs, h1, h2, h3⟩ := h
  refine ⟨A.heap.size :: rs, by rw [h1]; rfl, List.nodup_cons.2 ⟨fun hm => ?_, h2⟩, fun r hr => ?_⟩
  · have := (Array.getElem?_eq_some_iff.1 (h3 _ hm).2).1
    omega
  · rcases List.mem_cons.1 hr with rfl | hr
    · exact ⟨hBA, hD⟩
    · obtain ⟨h4, h5⟩ := h3 r hr
      have h6 := (Array.getElem?_eq_some_iff.1 h5).1
      exact ⟨h4, (k.block r h6 (fun hc => by
        rcases hc with hc | hc
        · have := hC _ hc; omega
        · omega)).trans h5⟩
theorem leave_marks {F : Fence} {n : Nat} {P : Program} {fn : Func} (hres : fn.results = #[]) {tmps : Array Value} {R : Ending → World → Prop} {B : Nat} : ∀ {ds : List Deferred} {w : World}, Mk B ds w → (∀ w', Below B w w' → R (.returned (.tuple #[])) w') → LeavesInM F n P fn tmps R ds .returning w := by
  rintro ds w ⟨rs, rfl, h2, h3⟩ hR
  induction rs generalizing w with
  | nil => exact ⟨_, results_none hres _ _ _, hR w (Below.refl _ _)⟩
  | cons r rs ih =>
    have h2 := List.nodup_cons.1 h2
    have hr := h3 r List.mem_cons_self
    have hb := putObj_below w (B := B) (l := r) (.deferred none) hr.1
    refine ⟨by simp, .inl ⟨r, _, rfl, run_takeDeferred hr.2, ?_⟩⟩
    refine ih h2.2 (fun r' hr' => ?_) (fun w' hw' => hR w' (hb.trans hw'))
    have h5 := h3 r' (List.mem_cons_of_mem _ hr')
    have hne : r' ≠ r := fun e => h2.1 (by rw [← e]; exact hr')
    exact ⟨h5.1, (World.putObj_heap_other (by first | exact hne | exact hne.symm)).trans h5.2⟩
theorem KC.below {C : Nat → Prop} {A B D : World} (h : KC C A B) (k : Below A.heap.size B D) : KC C A D :=
  ⟨k.os.trans h.os, k.tape.trans h.tape, k.output.trans h.output, Nat.le_trans h.size k.size, fun i hi hc => (k.block i hi).trans (h.block i hi hc)⟩
theorem cell_low {w0 W : World} {b o : Nat} (h : Below w0.heap.size w0 W) (hb : b < w0.heap.size) : W.cell? ⟨b, o, none⟩ = w0.cell? ⟨b, o, none⟩ := World.cell?_of_block (a := ⟨b, o, none⟩) (h.block b hb)
def put4 (a : Act) (x : Im) : Act := (((({ tmps := a.tmps, defers := [] } : Act).put (some 27) (.string x.1)).put (some 28) (.string x.2)).put (some 6) (.string x.1)).put (some 7) (.string x.2)
theorem range_c {P : Program} {m : Nat} {g : Operand} {ps : Array Tmp} {assign body : Code} {Q : Exit → Act → World → Prop} {a : Act} {w : World}
    {gf : Nat} {lb : Array Value} (hg : a.eval g = .func (.func gf) #[] lb) (eg : ∀ args W, (callFunc gf args).run P W = .ok (.enter gf args) W)
    {xs : List Im} {A : Nat → Prop} (hseq : SeqB P gf lb (fun x : Im => #[.string x.1, .string x.2]) xs A w) (hps : ps.size = 2)
    (C : Nat → Prop) (hA : ∀ k, A k → k < w.heap.size ∧ ¬ C k) (hC : ∀ k, C k → k < w.heap.size)
    (I : List Im → World → Prop) (Ix : Code → List Im → World → Prop) (hI : ∀ s A B, I s A → Below w.heap.size A B → I s B) (hIx : ∀ c s A B, Ix c s A → Below w.heap.size A B → Ix c s B) (h0 : I [] w)
    (hassign : ∀ (l : Nat) (x : Im) (W : World) (K : Act → World → Prop), K (put4 a x) W →
      assign.wpIn (Fence.wide.inRound l) 0 P (Exit.then K (fun _ _ _ => False)) { tmps := (ps.zip #[.string x.1, .string x.2]).foldl (fun t (p, v) => t.setIfInBounds p v) a.tmps, defers := [] } W)
    (hbody : ∀ (l : Nat) (pre : List Im) (x : Im) (W : World), I pre W → pre ++ [x] <+: xs → w.heap.size ≤ W.heap.size → body.wpIn (Fence.wide.inRound l) 0 P (bPost C I Ix (pre ++ [x]) W) (put4 a x) W)
    (hdone : ∀ (W : World), I xs W → KC (fun k => C k ∨ w.heap.size ≤ k) w W → W.heap[w.heap.size]? = some (.deferred (some [])) → Q .normal { a with defers := { target := .collected w.heap.size, args := #[] } :: a.defers } W)
    (hstop : ∀ (c : Code) (pre : List Im) (W : World), pre <+: xs → Ix c pre W → KC (fun k => C k ∨ w.heap.size ≤ k) w W → W.heap[w.heap.size]? = some (.deferred (some [])) → c.wpIn Fence.wide m P Q { a with defers := { target := .collected w.heap.size, args := #[] } :: a.defers } W) :
    (Code.rangeFunc g ps assign body).wpIn Fence.wide m P Q a w :=
  range_b hg eg hseq (fun _ => hps.symm) C hA hC I Ix hI hIx h0 (put4 a) hassign hbody hdone hstop
theorem pfx {SP pre s K r : List Im} {x : Im} (h : SP = pre ++ (K ++ r)) (hp : s ++ [x] <+: K) : pre ++ s ++ [x] <+: SP := by
  obtain ⟨t, rfl⟩ := hp
  exact ⟨t ++ r, by rw [h]; simp⟩
set_option maxRecDepth 100000 in
set_option maxHeartbeats 8000000 in
theorem span1_seq (xs : List Im) (hr : Ris xs) (hn0 : xs.length ≤ 50) {h : Nat} (ts : List (Nd h)) (hts : ts.length = xs.length + 1) (kd : Nat → List Im) (lo hi : ByteArray) (p : Option Addr) (c : Nat) (q : Option Addr) (d : Nat) (bn bs : Nat) (w0 w : World) (hS : Sl w0 p xs.length c (itC xs)) (L : List Value) (hQ : Sl w0 q ts.length d L) (hb0 : Below w0.heap.size w0 w)
    (hkid : ∀ i, i < ts.length → ∀ bn bs w, Below w0.heap.size w0 w → w.heap[bn]? = some (.cells #[L.getD (2 * i) undef, L.getD (2 * i + 1) undef] 59 (0, 0)) → w.heap[bs]? = some (.cells #[.string lo, .string hi] 24 (0, 0)) → SeqB Try.prog 38 #[.pointer (some ⟨bn, 0, none⟩), .pointer (some ⟨bs, 0, none⟩)] (fun x : Im => #[.string x.1, .string x.2]) (kd i) (fun k => k < w0.heap.size ∨ k = bn ∨ k = bs) w)
    (hkf : ∀ i, i < ts.length → ∃ p n c q m d, L.getD (2 * i) undef = .slice p n c ∧ L.getD (2 * i + 1) undef = .slice q m d)
    (hn : w.heap[bn]? = some (.cells #[.slice p xs.length c, .slice q ts.length d] 59 (0, 0))) (hs : w.heap[bs]? = some (.cells #[.string lo, .string hi] 24 (0, 0))) :
    SeqB Try.prog 38 #[.pointer (some ⟨bn, 0, none⟩), .pointer (some ⟨bs, 0, none⟩)] (fun x : Im => #[.string x.1, .string x.2]) (spI xs kd lo hi (posK xs lo) (xs.length - posK xs lo)) (fun k => k < w0.heap.size ∨ k = bn ∨ k = bs) w := by
  intro C l J Jx W hbW hA hCW hJ hJx hY h0
  have hts0 : 0 < ts.length := by omega
  obtain ⟨qb, qo, rfl, hqb, hqc⟩ := hQ.lies hts0
  have hql : Hid (L.length = ts.length * 2) := hQ.len
  have HTS : Hid (ts.length = xs.length + 1) := hts
  have hqcap := hQ.cap
  obtain ⟨W0, hW0⟩ : ∃ W0, W.alloc (.cells #[.func (.yield l) #[] #[]] 41) = W0 := ⟨_, rfl⟩
  have hbW0 : Below W.heap.size W W0 := by rw [← hW0]; exact (Below.refl _ W).alloc (Nat.le_refl _) _
  have ry0 : W0.heap[W.heap.size]? = some (.cells #[.func (.yield l) #[] #[]] 41 (0, 0)) := by rw [← hW0]; exact heap_alloc_new _ _
  have rn0 := (hbW0.block _ (Nat.lt_of_lt_of_le (lt_of_row hn) hbW.size)).trans ((hbW.block _ (lt_of_row hn)).trans hn)
  have rs0 := (hbW0.block _ (Nat.lt_of_lt_of_le (lt_of_row hs) hbW.size)).trans ((hbW.block _ (lt_of_row hs)).trans hs)
  have hS0 : Sl W0 p xs.length c (itC xs) := ((hS.later hb0).later hbW).later hbW0
  have hnC : ¬ C bn := hA _ (Or.inr (Or.inl rfl))
  have hsC : ¬ C bs := hA _ (Or.inr (Or.inr rfl))
  have hYC : ¬ C W.heap.size := fun h => absurd (hCW _ h) (by omega)
  have hbC : ∀ b o, p = some ⟨b, o, none⟩ → 0 < xs.length → ¬ C b := fun b o e h => by
    obtain ⟨b', o', e', hb', _⟩ := hS.lies h
    rw [e] at e'
    injection e' with e'
    injection e' with e1
    exact hA _ (Or.inl (by omega))
  have hJ0 : J [] W0 := hJ _ _ _ h0 hbW0
  have kf := find_any xs hr (by omega) lo p c (some ⟨qb, qo, none⟩) ts.length d W0 hS0
  have kl := fun V => leaf_any p xs.length c (some ⟨qb, qo, none⟩) ts.length d V
  have hm0 : ¬ ts.length = 0 := by omega
  rw [decide_eq_false hm0] at kl
  obtain ⟨SP, hSP⟩ : ∃ SP, spI xs kd lo hi (posK xs lo) (xs.length - posK xs lo) = SP := ⟨_, rfl⟩
  rw [hSP] at hY ⊢
  have HSP : Hid (spI xs kd lo hi (posK xs lo) (xs.length - posK xs lo) = SP) := hSP
  have HY : Hid (∀ pre x A, J pre A → pre ++ [x] <+: SP → YieldAt Fence.wide 0 Try.prog l #[.string x.1, .string x.2] A fun e B => (e = .returned (.bool true) ∧ J (pre ++ [x]) B ∧ KC C A B) ∨ (e = .returned (.bool false) ∧ Jx (pre ++ [x]) B ∧ KC C A B)) := hY
  have HJ : Hid (∀ s A B, J s A → Below W.heap.size A B → J s B) := hJ
  have HJx : Hid (∀ s A B, Jx s A → Below W.heap.size A B → Jx s B) := hJx
  have HKD := hkid
  have HKF := hkf
  have hw0W : Below w0.heap.size w0 W0 := (hb0.trans (hbW.mono hb0.size)).trans (hbW0.mono (Nat.le_trans hb0.size hbW.size))
  have hlow : ∀ k, k < w0.heap.size → ¬ C k := fun k hk => hA k (Or.inl hk)
  have hqC : ¬ C qb := hlow _ hqb
  have hCW0 : ∀ k, C k → k < W0.heap.size := fun k hk => Nat.lt_of_lt_of_le (hCW k hk) hbW0.size
  have hpl := posK_le xs lo
  obtain ⟨i0, hi0⟩ : ∃ i0, posK xs lo = i0 := ⟨_, rfl⟩
  rw [hi0] at kf hpl
  have HSP0 : Hid (spI xs kd lo hi i0 (xs.length - i0) = SP) := by rw [← hi0]; exact hSP
  have hcap := hS.cap
  have hmx : maxLen = 9223372036854775807 := rfl
  have a0 := cell_of_row W0 bn 0 _ _ _ rn0
  have a1 := cell_of_row W0 bn 1 _ _ _ rn0
  have s0 := cell_of_row W0 bs 0 _ _ _ rs0
  have s1 := cell_of_row W0 bs 1 _ _ _ rs0
  have HXs : Hid (∃ ys, ys = xs) := ⟨xs, rfl⟩
  clear hSP HSP hY hJ hJx hi0 hn hs h0 hkid hkf hts0 hm0 hts hQ
  refine callsIn_of_wp_marks Try.func38 rfl trivial ?_ rfl
  simp only [Try.ntmps38, List.size_toArray, List.length_cons, List.length_nil, Nat.reduceAdd, Nat.reduceSub, Array.replicate_succ, Array.replicate_zero, List.push_toArray, List.append_toArray, List.nil_append, List.cons_append]
  gi_wp2_with fail
  refine ⟨trivial, rfl, ?_⟩
  refine (callsIn_wide.2 kf).mono ?_
  rintro e w1 ⟨rfl, hb1⟩
  have hJ1 : J [] w1 := HJ.out _ _ _ hJ0 (hb1.mono hbW0.size)
  have hk1 : KC C W0 w1 := KC.of hb1
  clear a0 a1 s0 s1 kf
  gi_wp2
  have h4 : ∀ i : Nat, i < ts.length → W0.cell? ⟨qb, qo + i * 2, none⟩ = some (L.getD (2 * i) undef) ∧ W0.cell? ⟨qb, qo + i * 2 + 1, none⟩ = some (L.getD (2 * i + 1) undef) := fun i hi => by
    have hql := hql.out
    have e1 : L[2 * i]? = some (L.getD (2 * i) undef) := by rw [List.getD_eq_getElem?_getD, List.getElem?_eq_getElem (by omega)]; rfl
    have e2 : L[2 * i + 1]? = some (L.getD (2 * i + 1) undef) := by rw [List.getD_eq_getElem?_getD, List.getElem?_eq_getElem (by omega)]; rfl
    have z1 := hqc _ _ e1
    have z2 := hqc _ _ e2
    rw [show qo + 2 * i = qo + i * 2 by omega] at z1
    rw [show qo + (2 * i + 1) = qo + i * 2 + 1 by omega] at z2
    exact ⟨(cell_low hw0W hqb).trans z1, (cell_low hw0W hqb).trans z2⟩
  clear hqc
  refine wpIn_loop (fun a' wr => ∃ (u4 u5 u6 u7 u8 u9 u10 u11 u12 u13 u14 u15 u16 u17 u18 u19 u20 u21 u22 u23 u24 u25 u26 u27 u28 u29 u30 u31 u32 u33 u34 u35 u36 u37 u38 u39 u40 u41 u42 u43 u44 u45 u46 u47 u48 u49 u50 u51 u52 u53 u54 u55 u56 u57 u58 u59 u60 u61 u62 u63 u64 u65 u66 : Value) (ds : List Deferred), (∃ (i : Nat) (pre : List Im), u4 = .int .i64 (i : Int) ∧ i ≤ xs.length ∧ Hid (SP = pre ++ spI xs kd lo hi i (xs.length - i)) ∧ J pre wr ∧ KC C W0 wr ∧ Hid (Mk W0.heap.size ds wr)) ∧ a' = { tmps := List.toArray (.func (.yield l) #[] #[] :: .pointer (some ⟨bn, 0, none⟩) :: .pointer (some ⟨bs, 0, none⟩) :: .pointer (some ⟨W.heap.size, 0, none⟩) :: u4 :: u5 :: u6 :: u7 :: u8 :: u9 :: u10 :: u11 :: u12 :: u13 :: u14 :: u15 :: u16 :: u17 :: u18 :: u19 :: u20 :: u21 :: u22 :: u23 :: u24 :: u25 :: u26 :: u27 :: u28 :: u29 :: u30 :: u31 :: u32 :: u33 :: u34 :: u35 :: u36 :: u37 :: u38 :: u39 :: u40 :: u41 :: u42 :: u43 :: u44 :: u45 :: u46 :: u47 :: u48 :: u49 :: u50 :: u51 :: u52 :: u53 :: u54 :: u55 :: u56 :: u57 :: u58 :: u59 :: u60 :: u61 :: u62 :: u63 :: u64 :: u65 :: u66 :: []), defers := ds }) (fun a' _ => xs.length - (intOf (a'.tmps.getD 4 undef)).toNat) ?start ?round
  case start => exact ⟨_, _, _, _, _, _, _, _, _, _, _, _, _, _, _, _, _, _, _, _, _, _, _, _, _, _, _, _, _, _, _, _, _, _, _, _, _, _, _, _, _, _, _, _, _, _, _, _, _, _, _, _, _, _, _, _, _, _, _, _, _, _, _, _, ⟨i0, [], rfl, hpl, HSP0.out.symm, hJ1, hk1, Mk.nil _ _⟩, rfl⟩
  case round =>
    clear hJ1 hk1 hb1
    rintro a' wr ⟨u4, u5, u6, u7, u8, u9, u10, u11, u12, u13, u14, u15, u16, u17, u18, u19, u20, u21, u22, u23, u24, u25, u26, u27, u28, u29, u30, u31, u32, u33, u34, u35, u36, u37, u38, u39, u40, u41, u42, u43, u44, u45, u46, u47, u48, u49, u50, u51, u52, u53, u54, u55, u56, u57, u58, u59, u60, u61, u62, u63, u64, u65, u66, ds, ⟨i, pre, rfl, hin, HI, hJr, hkr, HM⟩, rfl⟩
    have sz := hbW0.size
    have hYs := lt_of_row ry0
    have rn1 := (hkr.block _ (lt_of_row rn0) hnC).trans rn0
    have a0 := cell_of_row wr bn 0 _ _ _ rn1
    have a1 := cell_of_row wr bn 1 _ _ _ rn1
    gi_wp2_with fail
    refine ⟨trivial, rfl, ?_⟩
    refine (callsIn_wide.2 (kl _)).mono ?_
    rintro e w2 ⟨rfl, hb2⟩
    have hk2 : KC C W0 w2 := hkr.trans (KC.of hb2)
    have hJ2 : J pre w2 := HJ.out _ _ _ hJr (hb2.mono (Nat.le_trans sz hkr.size))
    have HM2 : Hid (Mk W0.heap.size ds w2) := HM.out.kc (C := C) (KC.of hb2) hCW0
    have rn := (hk2.block _ (lt_of_row rn0) hnC).trans rn0
    have rs := (hk2.block _ (lt_of_row rs0) hsC).trans rs0
    have hks := hk2.size
    clear a0 a1 rn1 kl hb2 hkr hJr HM
    obtain ⟨Y, hY⟩ : ∃ Y, W.heap.size = Y := ⟨_, rfl⟩
    have hig : i < ts.length := by have := HTS.out; omega
    obtain ⟨y1, y2⟩ := h4 i hig
    have hqW : qb < W0.heap.size := Nat.lt_of_lt_of_le hqb hw0W.size
    obtain ⟨kp, kn, kc, kq, km, kdd, g1, g2⟩ := HKF i hig
    obtain ⟨ka, hka⟩ : ∃ ka, L.getD (2 * i) undef = ka := ⟨_, rfl⟩
    obtain ⟨kb, hkb⟩ : ∃ kb, L.getD (2 * i + 1) undef = kb := ⟨_, rfl⟩
    have HKI := HKD i hig
    rw [hka] at y1 g1 HKI
    rw [hkb] at y2 g2 HKI
    have zka : ∀ V, Below w2.heap.size w2 V → V.cell? ⟨qb, qo + i * 2, none⟩ = some ka := fun V h => (World.cell?_of_block (a := ⟨qb, qo + i * 2, none⟩) ((h.block qb (Nat.lt_of_lt_of_le hqW hk2.size)).trans (hk2.block qb hqW hqC))).trans y1
    have zkb : ∀ V, Below w2.heap.size w2 V → V.cell? ⟨qb, qo + i * 2 + 1, none⟩ = some kb := fun V h => (World.cell?_of_block (a := ⟨qb, qo + i * 2 + 1, none⟩) ((h.block qb (Nat.lt_of_lt_of_le hqW hk2.size)).trans (hk2.block qb hqW hqC))).trans y2
    have ks : ∀ V : World, W0.heap.size ≤ V.heap.size → Calls Try.prog 31 #[.agg #[ka, kb], .agg #[.string lo, .string hi]] V fun e w' => ∃ v, e = .returned v ∧ RgV W0.heap.size ka kb lo hi v w' ∧ Below V.heap.size V w' := fun V hV => by rw [g1, g2]; exact span_rg kp kn kc kq km kdd lo hi _ V hV
    have hoc : ka.oneCell' = true ∧ kb.oneCell' = true := by rw [g1, g2]; exact ⟨rfl, rfl⟩
    have hoc1 := hoc.1
    have hoc2 := hoc.2
    simp only [hY]
    clear h4 y1 y2 g1 g2 hka hkb HKD HKF hoc
    gi_wp2
    refine any_tailIn (by kernel_rfl) 7 (by exact Nat.le_of_ble_eq_true rfl) (fun i => i + 20) (mixR [(6, RgV W0.heap.size ka kb lo hi)] [.pointer (some ⟨bn, 1, none⟩), .slice (some ⟨qb, qo, none⟩) ts.length d, .int .i64 (i : Int), .pointer (some ⟨qb, qo + i * 2, none⟩), .agg #[ka, kb], .agg #[.string lo, .string hi], undef]) (by kernel_rfl) (by kernel_rfl) (by kernel_rfl) (by kernel_rfl) (mixR_later _ _ (stab_cons RgV.later stab_nil)) ?step ?post
    case step =>
      intro iq hiq a W hrest hb hk
      have hp1 : a.eval (.tmp 1) = .pointer (some ⟨bn, 0, none⟩) := (hrest 1 (by intro iq2 hiq2; (repeat' split) <;> omega)).trans rfl
      have fp1 := ev hp1
      have hx1 : W.heap[bn]? = some (.cells #[.slice p xs.length c, .slice (some ⟨qb, qo, none⟩) ts.length d] 59 (0, 0)) := (hb.block _ (lt_of_row rn)).trans rn
      have hp2 : a.eval (.tmp 2) = .pointer (some ⟨bs, 0, none⟩) := (hrest 2 (by intro iq2 hiq2; (repeat' split) <;> omega)).trans rfl
      have fp2 := ev hp2
      have hx2 : W.heap[bs]? = some (.cells #[.string lo, .string hi] 24 (0, 0)) := (hb.block _ (lt_of_row rs)).trans rs
      have hp4 : a.eval (.tmp 4) = .int .i64 (i : Int) := (hrest 4 (by intro iq2 hiq2; (repeat' split) <;> omega)).trans rfl
      have fp4 := ev hp4
      clear hrest
      obtain rfl | rfl | rfl | rfl | rfl | rfl | rfl : iq = 0 ∨ iq = 1 ∨ iq = 2 ∨ iq = 3 ∨ iq = 4 ∨ iq = 5 ∨ iq = 6 := by omega
      · clear hiq
        clear hk
        refine ⟨_, rfl, rfl, Or.inl ⟨wanted_none rfl, wpIn_value (v := .pointer (some ⟨bn, 1, none⟩)) (w' := W) ?_ ⟨_, rfl, Below.refl _ _, rfl⟩⟩⟩
        go_simp
      · clear hiq
        have e0 : a.eval (.tmp 20) = .pointer (some ⟨bn, 1, none⟩) := hk 0 (mem_of (by kernel_rfl))
        have f0 := ev e0
        have hc : W.cell? ⟨bn, 1, none⟩ = some (.slice (some ⟨qb, qo, none⟩) ts.length d) := cell_of_row W _ 1 _ _ _ hx1
        clear hk
        refine ⟨_, rfl, rfl, Or.inl ⟨wanted_none rfl, wpIn_value (v := .slice (some ⟨qb, qo, none⟩) ts.length d) (w' := W) ?_ ⟨_, rfl, Below.refl _ _, rfl⟩⟩⟩
        go_simp
      · clear hiq
        clear hk
        refine ⟨_, rfl, rfl, Or.inl ⟨wanted_none rfl, wpIn_value (v := .int .i64 (i : Int)) (w' := W) ?_ ⟨_, rfl, Below.refl _ _, rfl⟩⟩⟩
        go_simp
      · clear hiq
        have e1 : a.eval (.tmp 21) = .slice (some ⟨qb, qo, none⟩) ts.length d := hk 1 (mem_of (by kernel_rfl))
        have f1 := ev e1
        have e2 : a.eval (.tmp 22) = .int .i64 (i : Int) := hk 2 (mem_of (by kernel_rfl))
        have f2 := ev e2
        clear hk
        refine ⟨_, rfl, rfl, Or.inl ⟨wanted_none rfl, wpIn_value (v := .pointer (some ⟨qb, qo + i * 2, none⟩)) (w' := W) ?_ ⟨_, rfl, Below.refl _ _, rfl⟩⟩⟩
        go_simp
      · clear hiq
        have e3 : a.eval (.tmp 23) = .pointer (some ⟨qb, qo + i * 2, none⟩) := hk 3 (mem_of (by kernel_rfl))
        have f3 := ev e3
        have hc1 := zka W hb
        have hc2 := zkb W hb
        clear hk
        refine ⟨_, rfl, rfl, Or.inl ⟨wanted_none rfl, wpIn_value (v := .agg #[ka, kb]) (w' := W) ?_ ⟨_, rfl, Below.refl _ _, rfl⟩⟩⟩
        go_simp
      · clear hiq
        have hc0 := cell_of_row W _ 0 _ _ _ hx2
        have hc1 := cell_of_row W _ 1 _ _ _ hx2
        clear hk
        refine ⟨_, rfl, rfl, Or.inl ⟨wanted_none rfl, wpIn_value (v := .agg #[.string lo, .string hi]) (w' := W) ?_ ⟨_, rfl, Below.refl _ _, rfl⟩⟩⟩
        go_simp
      · clear hiq
        have e4 : a.eval (.tmp 24) = .agg #[ka, kb] := hk 4 (mem_of (by kernel_rfl))
        have f4 := ev e4
        have e5 : a.eval (.tmp 25) = .agg #[.string lo, .string hi] := hk 5 (mem_of (by kernel_rfl))
        have f5 := ev e5
        clear hk
        refine ⟨_, rfl, rfl, Or.inl ⟨wanted_none rfl, wpIn_enter (f := 31) (args := #[.agg #[ka, kb], .agg #[.string lo, .string hi]]) ?_ ((ks W (Nat.le_trans hks hb.size)).mono ?_)⟩⟩
        · go_simp
        · rintro e w5 ⟨v5, rfl, hv5, hb5⟩
          exact ⟨_, rfl, _, rfl, hb5, hv5⟩
    case post =>
      intro V W3 hb3 hV
      obtain ⟨b1, b2, ev, hB1, hB2, hr1, hr2⟩ : RgV W0.heap.size ka kb lo hi (V 6) W3 := hV 6 (by omega)
      clear hV ks zka zkb hoc1 hoc2
      simp only [putAll, Nat.reduceAdd]
      rw [ev]
      simp only [Act.put, List.setIfInBounds_toArray, List.set_cons_zero, List.set_cons_succ]
      have hk3 : KC C W0 W3 := hk2.trans (KC.of hb3)
      have hJ3 : J pre W3 := HJ.out _ _ _ hJ2 (hb3.mono (Nat.le_trans sz hk2.size))
      have HM3 : Hid (Mk W0.heap.size ds W3) := HM2.out.kc (C := C) (KC.of hb3) hCW0
      have hs3 := hk3.size
      have l1 := lt_of_row hr1
      have l2 := lt_of_row hr2
      have hw03 : Below w0.heap.size w0 W3 := ⟨hk3.os.trans hw0W.os, hk3.tape.trans hw0W.tape, hk3.output.trans hw0W.output, Nat.le_trans hw0W.size hk3.size, fun k hk => (hk3.block k (Nat.lt_of_lt_of_le hk hw0W.size) (hlow k hk)).trans (hw0W.block k hk)⟩
      have hseq := HKI b1 b2 W3 hw03 hr1 hr2
      obtain ⟨rest, hrest⟩ := spI_kid xs kd lo hi i (xs.length - i)
      have HR : Hid (SP = pre ++ (kd i ++ rest)) := by unfold Hid; rw [HI.out, hrest]
      have HLO : Hid (∀ k, k < w0.heap.size → ¬ C k) := hlow
      have HLE : Hid (w0.heap.size ≤ W0.heap.size) := hw0W.size
      clear hrest ev hb3 hk2 hJ2 HM2 rn rs hw0W hw03 HKI hr1 hr2
      change wpListIn _ _ _ _ _ [] _ _
      gi_wp2
      refine range_c (gf := 38) (lb := #[.pointer (some ⟨b1, 0, none⟩), .pointer (some ⟨b2, 0, none⟩)]) rfl (enters_of Try.func38 (by kernel_rfl) rfl) hseq (by rfl) C
        (fun k hk => by
          have hle := HLE.out
          rcases hk with hk | rfl | rfl
          · exact ⟨by omega, HLO.out k hk⟩
          · exact ⟨l1, fun hc => by have := hCW0 _ hc; omega⟩
          · exact ⟨l2, fun hc => by have := hCW0 _ hc; omega⟩) (fun k hk => Nat.lt_of_lt_of_le (hCW0 k hk) hs3)
        (fun s U => J (pre ++ s) U ∧ KC C W0 U) (fun cd s U => cd = .ret ∧ Jx (pre ++ s) U ∧ KC C W0 U)
        (fun s U V ⟨x1, x2⟩ hb => ⟨HJ.out _ _ _ x1 (hb.mono (Nat.le_trans sz hs3)), x2.below (hb.mono hs3)⟩)
        (fun cd s U V ⟨x0, x1, x2⟩ hb => ⟨x0, HJx.out _ _ _ x1 (hb.mono (Nat.le_trans sz hs3)), x2.below (hb.mono hs3)⟩)
        ⟨by rw [List.append_nil]; exact hJ3, hk3⟩ ?assign ?body ?done ?stop
      case assign =>
        intro l2 x U K hK
        unfold put4 at hK
        simp only [Act.put, List.setIfInBounds_toArray, List.set_cons_zero, List.set_cons_succ] at hK
        gi_wp2
        exact hK
      case body =>
        rintro l2 s x U ⟨hJU, hkU⟩ hp hsz
        have ryU := (hkU.block _ hYs hYC).trans ry0
        rw [hY] at ryU
        have cy := cell_of_row U _ 0 _ _ _ ryU
        obtain ⟨fn, tm, as_, bo, hy, hR⟩ := YieldAt.inAny (m' := 0) (HY.out (pre ++ s) x U hJU (pfx HR.out hp))
        unfold put4
        simp only [Act.put, List.setIfInBounds_toArray, List.set_cons_zero, List.set_cons_succ]
        clear hp hseq
        gi_wp2
        refine ⟨rfl, ?_⟩
        refine RoundIn.mono (show RoundIn (Fence.wide.inRound l2) _ _ _ _ _ _ _ _ _ from hR) ?_
        rintro e B (⟨rfl, hJB, hkB⟩ | ⟨rfl, hJB, hkB⟩)
        · gi_wp2
          exact ⟨hkB, by rw [← List.append_assoc]; exact hJB, hkU.trans hkB⟩
        · gi_wp2
          exact ⟨hkB, rfl, by rw [← List.append_assoc]; exact hJB, hkU.trans hkB⟩
      case stop =>
        rintro cd s U hp ⟨rfl, hJU, hkU⟩ hkc hD
        have hMU := HM3.out.push (C := C) hs3 hkc hCW0 hD
        obtain ⟨t, ht⟩ := hp
        have hpre : pre ++ s <+: SP := ⟨t ++ rest, by rw [HR.out, ← ht]; simp⟩
        gi_wp2
        refine leave_marks rfl hMU (fun w' hw' => ?_)
        exact ⟨⟨_, rfl⟩, Or.inr ⟨_, hpre, HJx.out _ _ _ hJU (hw'.mono sz)⟩, ((KC.of hbW0).trans hkU).below (hw'.mono sz)⟩
      case done =>
        rintro w2 ⟨hJ2, hk2⟩ hkc hD
        have HM2 : Hid (Mk W0.heap.size _ w2) := HM3.out.push (C := C) hs3 hkc hCW0 hD
        have rn := (hk2.block _ (lt_of_row rn0) hnC).trans rn0
        have rs := (hk2.block _ (lt_of_row rs0) hsC).trans rs0
        have ry := (hk2.block _ hYs hYC).trans ry0
        rw [hY] at ry
        clear hkc hD hk3 hJ3 HM3 hseq HR HLO HLE
        gi_wp2
        by_cases hlt : i < xs.length
        · obtain ⟨b, o, rfl, hb, hcs⟩ := hS0.lies (by omega)
          have hbC' := hbC b o rfl (by omega)
          obtain ⟨y1, y2⟩ := Sl.get hcs hlt
          have zk : ∀ V, Below w2.heap.size w2 V → V.cell? ⟨b, o + i * 2, none⟩ = some (.string (xs[i]!).1) := fun V h => (World.cell?_of_block (a := ⟨b, o + i * 2, none⟩) ((h.block b (Nat.lt_of_lt_of_le hb hk2.size)).trans (hk2.block b hb hbC'))).trans y1
          have zv : ∀ V, Below w2.heap.size w2 V → V.cell? ⟨b, o + i * 2 + 1, none⟩ = some (.string (xs[i]!).2) := fun V h => (World.cell?_of_block (a := ⟨b, o + i * 2 + 1, none⟩) ((h.block b (Nat.lt_of_lt_of_le hb hk2.size)).trans (hk2.block b hb hbC'))).trans y2
          have kh := fun V => has_any lo hi (xs[i]!).1 V
          have hlt' : (i : Int) < (xs.length : Int) := by omega
          cases hh : hasB lo hi (xs[i]!).1 with
          | false =>
            rw [hh] at kh
            have hsp := spI_no (kd := kd) hlt hh
            obtain ⟨⟨k, v⟩, hkv⟩ : ∃ x, xs[i]! = x := ⟨_, rfl⟩
            rw [hkv] at zk zv kh
            simp only at zk zv kh
            have HE : Hid (SP = pre ++ kd i) := by unfold Hid; rw [HI.out, hsp]
            clear hsp hkv HI hcs y1 y2 hh
            refine any_tailIn (by kernel_rfl) 30 (by exact Nat.le_of_ble_eq_true rfl) (fun i => i + 34) (mixR [] [.int .i64 (i : Int), .pointer (some ⟨bn, 0, none⟩), .slice (some ⟨b, o, none⟩) xs.length c, .int .i64 (xs.length : Int), .bool false, .bool false, .agg #[.string lo, .string hi], .pointer (some ⟨bn, 0, none⟩), .slice (some ⟨b, o, none⟩) xs.length c, .int .i64 (i : Int), .pointer (some ⟨b, o + i * 2, none⟩), .pointer (some ⟨b, o + i * 2, none⟩), .string k, .bool false, .bool true, .bool true, .bool true, undef, undef, undef, undef, undef, undef, undef, undef, undef, undef, undef, undef, undef]) (by kernel_rfl) (by kernel_rfl) (by kernel_rfl) (by kernel_rfl) (mixR_later _ _ (stab_nil)) ?step ?post
            case step =>
              intro iq hiq a W hrest hb hk
              have hp1 : a.eval (.tmp 1) = .pointer (some ⟨bn, 0, none⟩) := (hrest 1 (by intro iq2 hiq2; (repeat' split) <;> omega)).trans rfl
              have fp1 := ev hp1
              have hx1 : W.heap[bn]? = some (.cells #[.slice (some ⟨b, o, none⟩) xs.length c, .slice (some ⟨qb, qo, none⟩) ts.length d] 59 (0, 0)) := (hb.block _ (lt_of_row rn)).trans rn
              have hp2 : a.eval (.tmp 2) = .pointer (some ⟨bs, 0, none⟩) := (hrest 2 (by intro iq2 hiq2; (repeat' split) <;> omega)).trans rfl
              have fp2 := ev hp2
              have hx2 : W.heap[bs]? = some (.cells #[.string lo, .string hi] 24 (0, 0)) := (hb.block _ (lt_of_row rs)).trans rs
              have hp4 : a.eval (.tmp 4) = .int .i64 (i : Int) := (hrest 4 (by intro iq2 hiq2; (repeat' split) <;> omega)).trans rfl
              have fp4 := ev hp4
              clear hrest
              obtain rfl | rfl | rfl | rfl | rfl | rfl | rfl | rfl | rfl | rfl | rfl | rfl | rfl | rfl | rfl | rfl | rfl | rfl | rfl | rfl | rfl | rfl | rfl | rfl | rfl | rfl | rfl | rfl | rfl | rfl : iq = 0 ∨ iq = 1 ∨ iq = 2 ∨ iq = 3 ∨ iq = 4 ∨ iq = 5 ∨ iq = 6 ∨ iq = 7 ∨ iq = 8 ∨ iq = 9 ∨ iq = 10 ∨ iq = 11 ∨ iq = 12 ∨ iq = 13 ∨ iq = 14 ∨ iq = 15 ∨ iq = 16 ∨ iq = 17 ∨ iq = 18 ∨ iq = 19 ∨ iq = 20 ∨ iq = 21 ∨ iq = 22 ∨ iq = 23 ∨ iq = 24 ∨ iq = 25 ∨ iq = 26 ∨ iq = 27 ∨ iq = 28 ∨ iq = 29 := by omega
              · clear hiq
                clear hk
                refine ⟨_, rfl, rfl, Or.inl ⟨wanted_none rfl, wpIn_value (v := .int .i64 (i : Int)) (w' := W) ?_ ⟨_, rfl, Below.refl _ _, rfl⟩⟩⟩
                go_simp
              · clear hiq
                clear hk
                refine ⟨_, rfl, rfl, Or.inl ⟨wanted_none rfl, wpIn_value (v := .pointer (some ⟨bn, 0, none⟩)) (w' := W) ?_ ⟨_, rfl, Below.refl _ _, rfl⟩⟩⟩
                go_simp
              · clear hiq
                have e1 : a.eval (.tmp 35) = .pointer (some ⟨bn, 0, none⟩) := hk 1 (mem_of (by kernel_rfl))
                have f1 := ev e1
                have hc : W.cell? ⟨bn, 0, none⟩ = some (.slice (some ⟨b, o, none⟩) xs.length c) := cell_of_row W _ 0 _ _ _ hx1
                clear hk
                refine ⟨_, rfl, rfl, Or.inl ⟨wanted_none rfl, wpIn_value (v := .slice (some ⟨b, o, none⟩) xs.length c) (w' := W) ?_ ⟨_, rfl, Below.refl _ _, rfl⟩⟩⟩
                go_simp
              · clear hiq
                have e2 : a.eval (.tmp 36) = .slice (some ⟨b, o, none⟩) xs.length c := hk 2 (mem_of (by kernel_rfl))
                have f2 := ev e2
                clear hk
                refine ⟨_, rfl, rfl, Or.inl ⟨wanted_none rfl, wpIn_value (v := .int .i64 (xs.length : Int)) (w' := W) ?_ ⟨_, rfl, Below.refl _ _, rfl⟩⟩⟩
                go_simp
              · clear hiq
                have e0 : a.eval (.tmp 34) = .int .i64 (i : Int) := hk 0 (mem_of (by kernel_rfl))
                have f0 := ev e0
                have e3 : a.eval (.tmp 37) = .int .i64 (xs.length : Int) := hk 3 (mem_of (by kernel_rfl))
                have f3 := ev e3
                clear hk
                refine ⟨_, rfl, rfl, Or.inl ⟨wanted_none rfl, wpIn_value (v := .bool false) (w' := W) ?_ ⟨_, rfl, Below.refl _ _, rfl⟩⟩⟩
                go_simp
                omega
              · clear hiq
                have e4 : a.eval (.tmp 38) = .bool false := hk 4 (mem_of (by kernel_rfl))
                have f4 := ev e4
                clear hk
                refine ⟨_, rfl, rfl, Or.inl ⟨wanted_none rfl, wpIn_value (v := .bool false) (w' := W) ?_ ⟨_, rfl, Below.refl _ _, rfl⟩⟩⟩
                go_simp
              · clear hiq
                have e5 : a.eval (.tmp 39) = .bool false := hk 5 (mem_of (by kernel_rfl))
                have f5 := ev e5
                have hc0 := cell_of_row W _ 0 _ _ _ hx2
                have hc1 := cell_of_row W _ 1 _ _ _ hx2
                clear hk
                refine ⟨_, rfl, rfl, Or.inl ⟨wanted_of (k := 5) (b := false) rfl rfl e5, wpIn_value (v := .agg #[.string lo, .string hi]) (w' := W) ?_ ⟨_, rfl, Below.refl _ _, rfl⟩⟩⟩
                go_simp
              · clear hiq
                have e5 : a.eval (.tmp 39) = .bool false := hk 5 (mem_of (by kernel_rfl))
                have f5 := ev e5
                clear hk
                refine ⟨_, rfl, rfl, Or.inl ⟨wanted_of (k := 5) (b := false) rfl rfl e5, wpIn_value (v := .pointer (some ⟨bn, 0, none⟩)) (w' := W) ?_ ⟨_, rfl, Below.refl _ _, rfl⟩⟩⟩
                go_simp
              · clear hiq
                have e5 : a.eval (.tmp 39) = .bool false := hk 5 (mem_of (by kernel_rfl))
                have f5 := ev e5
                have e7 : a.eval (.tmp 41) = .pointer (some ⟨bn, 0, none⟩) := hk 7 (mem_of (by kernel_rfl))
                have f7 := ev e7
                have hc : W.cell? ⟨bn, 0, none⟩ = some (.slice (some ⟨b, o, none⟩) xs.length c) := cell_of_row W _ 0 _ _ _ hx1
                clear hk
                refine ⟨_, rfl, rfl, Or.inl ⟨wanted_of (k := 5) (b := false) rfl rfl e5, wpIn_value (v := .slice (some ⟨b, o, none⟩) xs.length c) (w' := W) ?_ ⟨_, rfl, Below.refl _ _, rfl⟩⟩⟩
                go_simp
              · clear hiq
                have e5 : a.eval (.tmp 39) = .bool false := hk 5 (mem_of (by kernel_rfl))
                have f5 := ev e5
                clear hk
                refine ⟨_, rfl, rfl, Or.inl ⟨wanted_of (k := 5) (b := false) rfl rfl e5, wpIn_value (v := .int .i64 (i : Int)) (w' := W) ?_ ⟨_, rfl, Below.refl _ _, rfl⟩⟩⟩
                go_simp
              · clear hiq
                have e5 : a.eval (.tmp 39) = .bool false := hk 5 (mem_of (by kernel_rfl))
                have f5 := ev e5
                have e8 : a.eval (.tmp 42) = .slice (some ⟨b, o, none⟩) xs.length c := hk 8 (mem_of (by kernel_rfl))
                have f8 := ev e8
                have e9 : a.eval (.tmp 43) = .int .i64 (i : Int) := hk 9 (mem_of (by kernel_rfl))
                have f9 := ev e9
                clear hk
                refine ⟨_, rfl, rfl, Or.inl ⟨wanted_of (k := 5) (b := false) rfl rfl e5, wpIn_value (v := .pointer (some ⟨b, o + i * 2, none⟩)) (w' := W) ?_ ⟨_, rfl, Below.refl _ _, rfl⟩⟩⟩
                go_simp
              · clear hiq
                have e5 : a.eval (.tmp 39) = .bool false := hk 5 (mem_of (by kernel_rfl))
                have f5 := ev e5
                have e10 : a.eval (.tmp 44) = .pointer (some ⟨b, o + i * 2, none⟩) := hk 10 (mem_of (by kernel_rfl))
                have f10 := ev e10
                clear hk
                refine ⟨_, rfl, rfl, Or.inl ⟨wanted_of (k := 5) (b := false) rfl rfl e5, wpIn_value (v := .pointer (some ⟨b, o + i * 2, none⟩)) (w' := W) ?_ ⟨_, rfl, Below.refl _ _, rfl⟩⟩⟩
                go_simp
              · clear hiq
                have e5 : a.eval (.tmp 39) = .bool false := hk 5 (mem_of (by kernel_rfl))
                have f5 := ev e5
                have e11 : a.eval (.tmp 45) = .pointer (some ⟨b, o + i * 2, none⟩) := hk 11 (mem_of (by kernel_rfl))
                have f11 := ev e11
                have hc := zk W hb
                clear hk
                refine ⟨_, rfl, rfl, Or.inl ⟨wanted_of (k := 5) (b := false) rfl rfl e5, wpIn_value (v := .string k) (w' := W) ?_ ⟨_, rfl, Below.refl _ _, rfl⟩⟩⟩
                go_simp
              · clear hiq
                have e5 : a.eval (.tmp 39) = .bool false := hk 5 (mem_of (by kernel_rfl))
                have f5 := ev e5
                have e6 : a.eval (.tmp 40) = .agg #[.string lo, .string hi] := hk 6 (mem_of (by kernel_rfl))
                have f6 := ev e6
                have e12 : a.eval (.tmp 46) = .string k := hk 12 (mem_of (by kernel_rfl))
                have f12 := ev e12
                clear hk
                refine ⟨_, rfl, rfl, Or.inl ⟨wanted_of (k := 5) (b := false) rfl rfl e5, wpIn_enter (f := 39) (args := #[.agg #[.string lo, .string hi], .string k]) ?_ ((kh W).mono ?_)⟩⟩
                · go_simp
                · rintro e w2 ⟨rfl, hb2⟩
                  exact ⟨_, rfl, _, rfl, hb2, rfl⟩
              · clear hiq
                have e5 : a.eval (.tmp 39) = .bool false := hk 5 (mem_of (by kernel_rfl))
                have f5 := ev e5
                have e13 : a.eval (.tmp 47) = .bool false := hk 13 (mem_of (by kernel_rfl))
                have f13 := ev e13
                clear hk
                refine ⟨_, rfl, rfl, Or.inl ⟨wanted_of (k := 5) (b := false) rfl rfl e5, wpIn_value (v := .bool true) (w' := W) ?_ ⟨_, rfl, Below.refl _ _, rfl⟩⟩⟩
                go_simp
              · clear hiq
                have e5 : a.eval (.tmp 39) = .bool false := hk 5 (mem_of (by kernel_rfl))
                have f5 := ev e5
                have e14 : a.eval (.tmp 48) = .bool true := hk 14 (mem_of (by kernel_rfl))
                have f14 := ev e14
                clear hk
                refine ⟨_, rfl, rfl, Or.inl ⟨wanted_none rfl, wpIn_value (v := .bool true) (w' := W) ?_ ⟨_, rfl, Below.refl _ _, rfl⟩⟩⟩
                go_simp
              · clear hiq
                have e15 : a.eval (.tmp 49) = .bool true := hk 15 (mem_of (by kernel_rfl))
                have f15 := ev e15
                clear hk
                refine ⟨_, rfl, rfl, Or.inl ⟨wanted_none rfl, wpIn_value (v := .bool true) (w' := W) ?_ ⟨_, rfl, Below.refl _ _, rfl⟩⟩⟩
                go_simp
              · clear hiq
                have e16 : a.eval (.tmp 50) = .bool true := hk 16 (mem_of (by kernel_rfl))
                have f16 := ev e16
                exact ⟨_, rfl, rfl, Or.inr ⟨unwanted_of (k := 16) (b := false) (c := true) rfl rfl e16 rfl, rfl⟩⟩
              · clear hiq
                have e16 : a.eval (.tmp 50) = .bool true := hk 16 (mem_of (by kernel_rfl))
                have f16 := ev e16
                exact ⟨_, rfl, rfl, Or.inr ⟨unwanted_of (k := 16) (b := false) (c := true) rfl rfl e16 rfl, rfl⟩⟩
              · clear hiq
                have e16 : a.eval (.tmp 50) = .bool true := hk 16 (mem_of (by kernel_rfl))
                have f16 := ev e16
                exact ⟨_, rfl, rfl, Or.inr ⟨unwanted_of (k := 16) (b := false) (c := true) rfl rfl e16 rfl, rfl⟩⟩
              · clear hiq
                have e16 : a.eval (.tmp 50) = .bool true := hk 16 (mem_of (by kernel_rfl))
                have f16 := ev e16
                exact ⟨_, rfl, rfl, Or.inr ⟨unwanted_of (k := 16) (b := false) (c := true) rfl rfl e16 rfl, rfl⟩⟩
              · clear hiq
                have e16 : a.eval (.tmp 50) = .bool true := hk 16 (mem_of (by kernel_rfl))
                have f16 := ev e16
                exact ⟨_, rfl, rfl, Or.inr ⟨unwanted_of (k := 16) (b := false) (c := true) rfl rfl e16 rfl, rfl⟩⟩
              · clear hiq
                have e16 : a.eval (.tmp 50) = .bool true := hk 16 (mem_of (by kernel_rfl))
                have f16 := ev e16
                exact ⟨_, rfl, rfl, Or.inr ⟨unwanted_of (k := 16) (b := false) (c := true) rfl rfl e16 rfl, rfl⟩⟩
              · clear hiq
                have e16 : a.eval (.tmp 50) = .bool true := hk 16 (mem_of (by kernel_rfl))
                have f16 := ev e16
                exact ⟨_, rfl, rfl, Or.inr ⟨unwanted_of (k := 16) (b := false) (c := true) rfl rfl e16 rfl, rfl⟩⟩
              · clear hiq
                have e16 : a.eval (.tmp 50) = .bool true := hk 16 (mem_of (by kernel_rfl))
                have f16 := ev e16
                exact ⟨_, rfl, rfl, Or.inr ⟨unwanted_of (k := 16) (b := false) (c := true) rfl rfl e16 rfl, rfl⟩⟩
              · clear hiq
                have e16 : a.eval (.tmp 50) = .bool true := hk 16 (mem_of (by kernel_rfl))
                have f16 := ev e16
                exact ⟨_, rfl, rfl, Or.inr ⟨unwanted_of (k := 16) (b := false) (c := true) rfl rfl e16 rfl, rfl⟩⟩
              · clear hiq
                have e16 : a.eval (.tmp 50) = .bool true := hk 16 (mem_of (by kernel_rfl))
                have f16 := ev e16
                exact ⟨_, rfl, rfl, Or.inr ⟨unwanted_of (k := 16) (b := false) (c := true) rfl rfl e16 rfl, rfl⟩⟩
              · clear hiq
                have e16 : a.eval (.tmp 50) = .bool true := hk 16 (mem_of (by kernel_rfl))
                have f16 := ev e16
                exact ⟨_, rfl, rfl, Or.inr ⟨unwanted_of (k := 16) (b := false) (c := true) rfl rfl e16 rfl, rfl⟩⟩
              · clear hiq
                have e16 : a.eval (.tmp 50) = .bool true := hk 16 (mem_of (by kernel_rfl))
                have f16 := ev e16
                exact ⟨_, rfl, rfl, Or.inr ⟨unwanted_of (k := 16) (b := false) (c := true) rfl rfl e16 rfl, rfl⟩⟩
              · clear hiq
                have e16 : a.eval (.tmp 50) = .bool true := hk 16 (mem_of (by kernel_rfl))
                have f16 := ev e16
                exact ⟨_, rfl, rfl, Or.inr ⟨unwanted_of (k := 16) (b := false) (c := true) rfl rfl e16 rfl, rfl⟩⟩
            case post =>
              intro V W hb hV
              have v16 : V 16 = .bool true := hV 16 (by omega)
              clear hV
              simp only [putAll, Nat.reduceAdd]
              simp only [Act.put, List.setIfInBounds_toArray, List.set_cons_zero, List.set_cons_succ]
              rw [v16]
              change wpListIn _ _ _ _ _ [_, _, _] _ _
              refine wpListIn_skip (unwanted_of (k := 16) (b := false) (c := true) rfl rfl rfl rfl) ?_
              refine wpListIn_skip (unwanted_of (k := 16) (b := false) (c := true) rfl rfl rfl rfl) ?_
              simp only [Act.put, List.setIfInBounds_toArray, List.set_cons_zero, List.set_cons_succ]
              gi_wp2
              refine leave_marks rfl (HM2.out.kc (C := C) (KC.of hb) hCW0) (fun w' hw' => ?_)
              refine ⟨⟨_, rfl⟩, Or.inl ?_, ?_⟩
              · rw [HE.out]; exact HJ.out _ _ _ (HJ.out _ _ _ hJ2 (hb.mono (Nat.le_trans sz hk2.size))) (hw'.mono sz)
              · exact (((KC.of hbW0).trans hk2).trans (KC.of hb)).below (hw'.mono sz)
          | true =>
            rw [hh] at kh
            have hsp := spI_yes (kd := kd) hlt hh
            obtain ⟨⟨k, v⟩, hkv⟩ : ∃ x, xs[i]! = x := ⟨_, rfl⟩
            rw [hkv] at zk zv kh hsp
            simp only at zk zv kh
            have HE : Hid (SP = pre ++ kd i ++ [(k, v)] ++ spI xs kd lo hi (i + 1) (xs.length - (i + 1))) := by unfold Hid; rw [HI.out, hsp]; simp
            clear hsp hkv HI hcs y1 y2 hh
            refine any_tailIn (by kernel_rfl) 30 (by exact Nat.le_of_ble_eq_true rfl) (fun i => i + 34) (mixR [] [.int .i64 (i : Int), .pointer (some ⟨bn, 0, none⟩), .slice (some ⟨b, o, none⟩) xs.length c, .int .i64 (xs.length : Int), .bool false, .bool false, .agg #[.string lo, .string hi], .pointer (some ⟨bn, 0, none⟩), .slice (some ⟨b, o, none⟩) xs.length c, .int .i64 (i : Int), .pointer (some ⟨b, o + i * 2, none⟩), .pointer (some ⟨b, o + i * 2, none⟩), .string k, .bool true, .bool false, .bool false, .bool false, .func (.yield l) #[] #[], .pointer (some ⟨bn, 0, none⟩), .slice (some ⟨b, o, none⟩) xs.length c, .int .i64 (i : Int), .pointer (some ⟨b, o + i * 2, none⟩), .pointer (some ⟨b, o + i * 2, none⟩), .string k, .pointer (some ⟨bn, 0, none⟩), .slice (some ⟨b, o, none⟩) xs.length c, .int .i64 (i : Int), .pointer (some ⟨b, o + i * 2, none⟩), .pointer (some ⟨b, o + i * 2 + 1, none⟩), .string v]) (by kernel_rfl) (by kernel_rfl) (by kernel_rfl) (by kernel_rfl) (mixR_later _ _ (stab_nil)) ?step ?post
            case step =>
              intro iq hiq a W hrest hb hk
              have hp1 : a.eval (.tmp 1) = .pointer (some ⟨bn, 0, none⟩) := (hrest 1 (by intro iq2 hiq2; (repeat' split) <;> omega)).trans rfl
              have fp1 := ev hp1
              have hx1 : W.heap[bn]? = some (.cells #[.slice (some ⟨b, o, none⟩) xs.length c, .slice (some ⟨qb, qo, none⟩) ts.length d] 59 (0, 0)) := (hb.block _ (lt_of_row rn)).trans rn
              have hp2 : a.eval (.tmp 2) = .pointer (some ⟨bs, 0, none⟩) := (hrest 2 (by intro iq2 hiq2; (repeat' split) <;> omega)).trans rfl
              have fp2 := ev hp2
              have hx2 : W.heap[bs]? = some (.cells #[.string lo, .string hi] 24 (0, 0)) := (hb.block _ (lt_of_row rs)).trans rs
              have hp3 : a.eval (.tmp 3) = .pointer (some ⟨Y, 0, none⟩) := (hrest 3 (by intro iq2 hiq2; (repeat' split) <;> omega)).trans rfl
              have fp3 := ev hp3
              have hx3 : W.heap[Y]? = some (.cells #[.func (.yield l) #[] #[]] 41 (0, 0)) := (hb.block _ (lt_of_row ry)).trans ry
              have hp4 : a.eval (.tmp 4) = .int .i64 (i : Int) := (hrest 4 (by intro iq2 hiq2; (repeat' split) <;> omega)).trans rfl
              have fp4 := ev hp4
              clear hrest
              obtain rfl | rfl | rfl | rfl | rfl | rfl | rfl | rfl | rfl | rfl | rfl | rfl | rfl | rfl | rfl | rfl | rfl | rfl | rfl | rfl | rfl | rfl | rfl | rfl | rfl | rfl | rfl | rfl | rfl | rfl : iq = 0 ∨ iq = 1 ∨ iq = 2 ∨ iq = 3 ∨ iq = 4 ∨ iq = 5 ∨ iq = 6 ∨ iq = 7 ∨ iq = 8 ∨ iq = 9 ∨ iq = 10 ∨ iq = 11 ∨ iq = 12 ∨ iq = 13 ∨ iq = 14 ∨ iq = 15 ∨ iq = 16 ∨ iq = 17 ∨ iq = 18 ∨ iq = 19 ∨ iq = 20 ∨ iq = 21 ∨ iq = 22 ∨ iq = 23 ∨ iq = 24 ∨ iq = 25 ∨ iq = 26 ∨ iq = 27 ∨ iq = 28 ∨ iq = 29 := by omega
              · clear hiq
                clear hk
                refine ⟨_, rfl, rfl, Or.inl ⟨wanted_none rfl, wpIn_value (v := .int .i64 (i : Int)) (w' := W) ?_ ⟨_, rfl, Below.refl _ _, rfl⟩⟩⟩
                go_simp
              · clear hiq
                clear hk
                refine ⟨_, rfl, rfl, Or.inl ⟨wanted_none rfl, wpIn_value (v := .pointer (some ⟨bn, 0, none⟩)) (w' := W) ?_ ⟨_, rfl, Below.refl _ _, rfl⟩⟩⟩
                go_simp
              · clear hiq
                have e1 : a.eval (.tmp 35) = .pointer (some ⟨bn, 0, none⟩) := hk 1 (mem_of (by kernel_rfl))
                have f1 := ev e1
                have hc : W.cell? ⟨bn, 0, none⟩ = some (.slice (some ⟨b, o, none⟩) xs.length c) := cell_of_row W _ 0 _ _ _ hx1
                clear hk
                refine ⟨_, rfl, rfl, Or.inl ⟨wanted_none rfl, wpIn_value (v := .slice (some ⟨b, o, none⟩) xs.length c) (w' := W) ?_ ⟨_, rfl, Below.refl _ _, rfl⟩⟩⟩
                go_simp
              · clear hiq
                have e2 : a.eval (.tmp 36) = .slice (some ⟨b, o, none⟩) xs.length c := hk 2 (mem_of (by kernel_rfl))
                have f2 := ev e2
                clear hk
                refine ⟨_, rfl, rfl, Or.inl ⟨wanted_none rfl, wpIn_value (v := .int .i64 (xs.length : Int)) (w' := W) ?_ ⟨_, rfl, Below.refl _ _, rfl⟩⟩⟩
                go_simp
              · clear hiq
                have e0 : a.eval (.tmp 34) = .int .i64 (i : Int) := hk 0 (mem_of (by kernel_rfl))
                have f0 := ev e0
                have e3 : a.eval (.tmp 37) = .int .i64 (xs.length : Int) := hk 3 (mem_of (by kernel_rfl))
                have f3 := ev e3
                clear hk
                refine ⟨_, rfl, rfl, Or.inl ⟨wanted_none rfl, wpIn_value (v := .bool false) (w' := W) ?_ ⟨_, rfl, Below.refl _ _, rfl⟩⟩⟩
                go_simp
                omega
              · clear hiq
                have e4 : a.eval (.tmp 38) = .bool false := hk 4 (mem_of (by kernel_rfl))
                have f4 := ev e4
                clear hk
                refine ⟨_, rfl, rfl, Or.inl ⟨wanted_none rfl, wpIn_value (v := .bool false) (w' := W) ?_ ⟨_, rfl, Below.refl _ _, rfl⟩⟩⟩
                go_simp
              · clear hiq
                have e5 : a.eval (.tmp 39) = .bool false := hk 5 (mem_of (by kernel_rfl))
                have f5 := ev e5
                have hc0 := cell_of_row W _ 0 _ _ _ hx2
                have hc1 := cell_of_row W _ 1 _ _ _ hx2
                clear hk
                refine ⟨_, rfl, rfl, Or.inl ⟨wanted_of (k := 5) (b := false) rfl rfl e5, wpIn_value (v := .agg #[.string lo, .string hi]) (w' := W) ?_ ⟨_, rfl, Below.refl _ _, rfl⟩⟩⟩
                go_simp
              · clear hiq
                have e5 : a.eval (.tmp 39) = .bool false := hk 5 (mem_of (by kernel_rfl))
                have f5 := ev e5
                clear hk
                refine ⟨_, rfl, rfl, Or.inl ⟨wanted_of (k := 5) (b := false) rfl rfl e5, wpIn_value (v := .pointer (some ⟨bn, 0, none⟩)) (w' := W) ?_ ⟨_, rfl, Below.refl _ _, rfl⟩⟩⟩
                go_simp
              · clear hiq
                have e5 : a.eval (.tmp 39) = .bool false := hk 5 (mem_of (by kernel_rfl))
                have f5 := ev e5
                have e7 : a.eval (.tmp 41) = .pointer (some ⟨bn, 0, none⟩) := hk 7 (mem_of (by kernel_rfl))
                have f7 := ev e7
                have hc : W.cell? ⟨bn, 0, none⟩ = some (.slice (some ⟨b, o, none⟩) xs.length c) := cell_of_row W _ 0 _ _ _ hx1
                clear hk
                refine ⟨_, rfl, rfl, Or.inl ⟨wanted_of (k := 5) (b := false) rfl rfl e5, wpIn_value (v := .slice (some ⟨b, o, none⟩) xs.length c) (w' := W) ?_ ⟨_, rfl, Below.refl _ _, rfl⟩⟩⟩
                go_simp
              · clear hiq
                have e5 : a.eval (.tmp 39) = .bool false := hk 5 (mem_of (by kernel_rfl))
                have f5 := ev e5
                clear hk
                refine ⟨_, rfl, rfl, Or.inl ⟨wanted_of (k := 5) (b := false) rfl rfl e5, wpIn_value (v := .int .i64 (i : Int)) (w' := W) ?_ ⟨_, rfl, Below.refl _ _, rfl⟩⟩⟩
                go_simp
              · clear hiq
                have e5 : a.eval (.tmp 39) = .bool false := hk 5 (mem_of (by kernel_rfl))
                have f5 := ev e5
                have e8 : a.eval (.tmp 42) = .slice (some ⟨b, o, none⟩) xs.length c := hk 8 (mem_of (by kernel_rfl))
                have f8 := ev e8
                have e9 : a.eval (.tmp 43) = .int .i64 (i : Int) := hk 9 (mem_of (by kernel_rfl))
                have f9 := ev e9
                clear hk
                refine ⟨_, rfl, rfl, Or.inl ⟨wanted_of (k := 5) (b := false) rfl rfl e5, wpIn_value (v := .pointer (some ⟨b, o + i * 2, none⟩)) (w' := W) ?_ ⟨_, rfl, Below.refl _ _, rfl⟩⟩⟩
                go_simp
              · clear hiq
                have e5 : a.eval (.tmp 39) = .bool false := hk 5 (mem_of (by kernel_rfl))
                have f5 := ev e5
                have e10 : a.eval (.tmp 44) = .pointer (some ⟨b, o + i * 2, none⟩) := hk 10 (mem_of (by kernel_rfl))
                have f10 := ev e10
                clear hk
                refine ⟨_, rfl, rfl, Or.inl ⟨wanted_of (k := 5) (b := false) rfl rfl e5, wpIn_value (v := .pointer (some ⟨b, o + i * 2, none⟩)) (w' := W) ?_ ⟨_, rfl, Below.refl _ _, rfl⟩⟩⟩
                go_simp
              · clear hiq
                have e5 : a.eval (.tmp 39) = .bool false := hk 5 (mem_of (by kernel_rfl))
                have f5 := ev e5
                have e11 : a.eval (.tmp 45) = .pointer (some ⟨b, o + i * 2, none⟩) := hk 11 (mem_of (by kernel_rfl))
                have f11 := ev e11
                have hc := zk W hb
                clear hk
                refine ⟨_, rfl, rfl, Or.inl ⟨wanted_of (k := 5) (b := false) rfl rfl e5, wpIn_value (v := .string k) (w' := W) ?_ ⟨_, rfl, Below.refl _ _, rfl⟩⟩⟩
                go_simp
              · clear hiq
                have e5 : a.eval (.tmp 39) = .bool false := hk 5 (mem_of (by kernel_rfl))
                have f5 := ev e5
                have e6 : a.eval (.tmp 40) = .agg #[.string lo, .string hi] := hk 6 (mem_of (by kernel_rfl))
                have f6 := ev e6
                have e12 : a.eval (.tmp 46) = .string k := hk 12 (mem_of (by kernel_rfl))
                have f12 := ev e12
                clear hk
                refine ⟨_, rfl, rfl, Or.inl ⟨wanted_of (k := 5) (b := false) rfl rfl e5, wpIn_enter (f := 39) (args := #[.agg #[.string lo, .string hi], .string k]) ?_ ((kh W).mono ?_)⟩⟩
                · go_simp
                · rintro e w2 ⟨rfl, hb2⟩
                  exact ⟨_, rfl, _, rfl, hb2, rfl⟩
              · clear hiq
                have e5 : a.eval (.tmp 39) = .bool false := hk 5 (mem_of (by kernel_rfl))
                have f5 := ev e5
                have e13 : a.eval (.tmp 47) = .bool true := hk 13 (mem_of (by kernel_rfl))
                have f13 := ev e13
                clear hk
                refine ⟨_, rfl, rfl, Or.inl ⟨wanted_of (k := 5) (b := false) rfl rfl e5, wpIn_value (v := .bool false) (w' := W) ?_ ⟨_, rfl, Below.refl _ _, rfl⟩⟩⟩
                go_simp
              · clear hiq
                have e5 : a.eval (.tmp 39) = .bool false := hk 5 (mem_of (by kernel_rfl))
                have f5 := ev e5
                have e14 : a.eval (.tmp 48) = .bool false := hk 14 (mem_of (by kernel_rfl))
                have f14 := ev e14
                clear hk
                refine ⟨_, rfl, rfl, Or.inl ⟨wanted_none rfl, wpIn_value (v := .bool false) (w' := W) ?_ ⟨_, rfl, Below.refl _ _, rfl⟩⟩⟩
                go_simp
              · clear hiq
                have e15 : a.eval (.tmp 49) = .bool false := hk 15 (mem_of (by kernel_rfl))
                have f15 := ev e15
                clear hk
                refine ⟨_, rfl, rfl, Or.inl ⟨wanted_none rfl, wpIn_value (v := .bool false) (w' := W) ?_ ⟨_, rfl, Below.refl _ _, rfl⟩⟩⟩
                go_simp
              · clear hiq
                have e16 : a.eval (.tmp 50) = .bool false := hk 16 (mem_of (by kernel_rfl))
                have f16 := ev e16
                have hc : W.cell? ⟨Y, 0, none⟩ = some (.func (.yield l) #[] #[]) := cell_of_row W _ 0 _ _ _ hx3
                clear hk
                refine ⟨_, rfl, rfl, Or.inl ⟨wanted_of (k := 16) (b := false) rfl rfl e16, wpIn_value (v := .func (.yield l) #[] #[]) (w' := W) ?_ ⟨_, rfl, Below.refl _ _, rfl⟩⟩⟩
                go_simp
              · clear hiq
                have e16 : a.eval (.tmp 50) = .bool false := hk 16 (mem_of (by kernel_rfl))
                have f16 := ev e16
                clear hk
                refine ⟨_, rfl, rfl, Or.inl ⟨wanted_of (k := 16) (b := false) rfl rfl e16, wpIn_value (v := .pointer (some ⟨bn, 0, none⟩)) (w' := W) ?_ ⟨_, rfl, Below.refl _ _, rfl⟩⟩⟩
                go_simp
              · clear hiq
                have e16 : a.eval (.tmp 50) = .bool false := hk 16 (mem_of (by kernel_rfl))
                have f16 := ev e16
                have e18 : a.eval (.tmp 52) = .pointer (some ⟨bn, 0, none⟩) := hk 18 (mem_of (by kernel_rfl))
                have f18 := ev e18
                have hc : W.cell? ⟨bn, 0, none⟩ = some (.slice (some ⟨b, o, none⟩) xs.length c) := cell_of_row W _ 0 _ _ _ hx1
                clear hk
                refine ⟨_, rfl, rfl, Or.inl ⟨wanted_of (k := 16) (b := false) rfl rfl e16, wpIn_value (v := .slice (some ⟨b, o, none⟩) xs.length c) (w' := W) ?_ ⟨_, rfl, Below.refl _ _, rfl⟩⟩⟩
                go_simp
              · clear hiq
                have e16 : a.eval (.tmp 50) = .bool false := hk 16 (mem_of (by kernel_rfl))
                have f16 := ev e16
                clear hk
                refine ⟨_, rfl, rfl, Or.inl ⟨wanted_of (k := 16) (b := false) rfl rfl e16, wpIn_value (v := .int .i64 (i : Int)) (w' := W) ?_ ⟨_, rfl, Below.refl _ _, rfl⟩⟩⟩
                go_simp
              · clear hiq
                have e16 : a.eval (.tmp 50) = .bool false := hk 16 (mem_of (by kernel_rfl))
                have f16 := ev e16
                have e19 : a.eval (.tmp 53) = .slice (some ⟨b, o, none⟩) xs.length c := hk 19 (mem_of (by kernel_rfl))
                have f19 := ev e19
                have e20 : a.eval (.tmp 54) = .int .i64 (i : Int) := hk 20 (mem_of (by kernel_rfl))
                have f20 := ev e20
                clear hk
                refine ⟨_, rfl, rfl, Or.inl ⟨wanted_of (k := 16) (b := false) rfl rfl e16, wpIn_value (v := .pointer (some ⟨b, o + i * 2, none⟩)) (w' := W) ?_ ⟨_, rfl, Below.refl _ _, rfl⟩⟩⟩
                go_simp
              · clear hiq
                have e16 : a.eval (.tmp 50) = .bool false := hk 16 (mem_of (by kernel_rfl))
                have f16 := ev e16
                have e21 : a.eval (.tmp 55) = .pointer (some ⟨b, o + i * 2, none⟩) := hk 21 (mem_of (by kernel_rfl))
                have f21 := ev e21
                clear hk
                refine ⟨_, rfl, rfl, Or.inl ⟨wanted_of (k := 16) (b := false) rfl rfl e16, wpIn_value (v := .pointer (some ⟨b, o + i * 2, none⟩)) (w' := W) ?_ ⟨_, rfl, Below.refl _ _, rfl⟩⟩⟩
                go_simp
              · clear hiq
                have e16 : a.eval (.tmp 50) = .bool false := hk 16 (mem_of (by kernel_rfl))
                have f16 := ev e16
                have e22 : a.eval (.tmp 56) = .pointer (some ⟨b, o + i * 2, none⟩) := hk 22 (mem_of (by kernel_rfl))
                have f22 := ev e22
                have hc := zk W hb
                clear hk
                refine ⟨_, rfl, rfl, Or.inl ⟨wanted_of (k := 16) (b := false) rfl rfl e16, wpIn_value (v := .string k) (w' := W) ?_ ⟨_, rfl, Below.refl _ _, rfl⟩⟩⟩
                go_simp
              · clear hiq
                have e16 : a.eval (.tmp 50) = .bool false := hk 16 (mem_of (by kernel_rfl))
                have f16 := ev e16
                clear hk
                refine ⟨_, rfl, rfl, Or.inl ⟨wanted_of (k := 16) (b := false) rfl rfl e16, wpIn_value (v := .pointer (some ⟨bn, 0, none⟩)) (w' := W) ?_ ⟨_, rfl, Below.refl _ _, rfl⟩⟩⟩
                go_simp
              · clear hiq
                have e16 : a.eval (.tmp 50) = .bool false := hk 16 (mem_of (by kernel_rfl))
                have f16 := ev e16
                have e24 : a.eval (.tmp 58) = .pointer (some ⟨bn, 0, none⟩) := hk 24 (mem_of (by kernel_rfl))
                have f24 := ev e24
                have hc : W.cell? ⟨bn, 0, none⟩ = some (.slice (some ⟨b, o, none⟩) xs.length c) := cell_of_row W _ 0 _ _ _ hx1
                clear hk
                refine ⟨_, rfl, rfl, Or.inl ⟨wanted_of (k := 16) (b := false) rfl rfl e16, wpIn_value (v := .slice (some ⟨b, o, none⟩) xs.length c) (w' := W) ?_ ⟨_, rfl, Below.refl _ _, rfl⟩⟩⟩
                go_simp
              · clear hiq
                have e16 : a.eval (.tmp 50) = .bool false := hk 16 (mem_of (by kernel_rfl))
                have f16 := ev e16
                clear hk
                refine ⟨_, rfl, rfl, Or.inl ⟨wanted_of (k := 16) (b := false) rfl rfl e16, wpIn_value (v := .int .i64 (i : Int)) (w' := W) ?_ ⟨_, rfl, Below.refl _ _, rfl⟩⟩⟩
                go_simp
              · clear hiq
                have e16 : a.eval (.tmp 50) = .bool false := hk 16 (mem_of (by kernel_rfl))
                have f16 := ev e16
                have e25 : a.eval (.tmp 59) = .slice (some ⟨b, o, none⟩) xs.length c := hk 25 (mem_of (by kernel_rfl))
                have f25 := ev e25
                have e26 : a.eval (.tmp 60) = .int .i64 (i : Int) := hk 26 (mem_of (by kernel_rfl))
                have f26 := ev e26
                clear hk
                refine ⟨_, rfl, rfl, Or.inl ⟨wanted_of (k := 16) (b := false) rfl rfl e16, wpIn_value (v := .pointer (some ⟨b, o + i * 2, none⟩)) (w' := W) ?_ ⟨_, rfl, Below.refl _ _, rfl⟩⟩⟩
                go_simp
              · clear hiq
                have e16 : a.eval (.tmp 50) = .bool false := hk 16 (mem_of (by kernel_rfl))
                have f16 := ev e16
                have e27 : a.eval (.tmp 61) = .pointer (some ⟨b, o + i * 2, none⟩) := hk 27 (mem_of (by kernel_rfl))
                have f27 := ev e27
                clear hk
                refine ⟨_, rfl, rfl, Or.inl ⟨wanted_of (k := 16) (b := false) rfl rfl e16, wpIn_value (v := .pointer (some ⟨b, o + i * 2 + 1, none⟩)) (w' := W) ?_ ⟨_, rfl, Below.refl _ _, rfl⟩⟩⟩
                go_simp
              · clear hiq
                have e16 : a.eval (.tmp 50) = .bool false := hk 16 (mem_of (by kernel_rfl))
                have f16 := ev e16
                have e28 : a.eval (.tmp 62) = .pointer (some ⟨b, o + i * 2 + 1, none⟩) := hk 28 (mem_of (by kernel_rfl))
                have f28 := ev e28
                have hc := zv W hb
                clear hk
                refine ⟨_, rfl, rfl, Or.inl ⟨wanted_of (k := 16) (b := false) rfl rfl e16, wpIn_value (v := .string v) (w' := W) ?_ ⟨_, rfl, Below.refl _ _, rfl⟩⟩⟩
                go_simp
            case post =>
              intro V W hb hV
              have v16 : V 16 = .bool false := hV 16 (by omega)
              have v17 : V 17 = .func (.yield l) #[] #[] := hV 17 (by omega)
              have v23 : V 23 = .string k := hV 23 (by omega)
              have v29 : V 29 = .string v := hV 29 (by omega)
              clear hV
              simp only [putAll, Nat.reduceAdd]
              simp only [Act.put, List.setIfInBounds_toArray, List.set_cons_zero, List.set_cons_succ]
              rw [v16, v17, v23, v29]
              change wpListIn _ _ _ _ _ [_, _, _] _ _
              have hJ3 : J (pre ++ kd i) W := HJ.out _ _ _ hJ2 (hb.mono (Nat.le_trans sz hk2.size))
              have hk3 : KC C W0 W := hk2.trans (KC.of hb)
              have HM3 := HM2.out.kc (C := C) (KC.of hb) hCW0
              obtain ⟨fn, tm, as_, bo, hy, hR⟩ := YieldAt.inAny (m' := 0) (HY.out (pre ++ kd i) (k, v) W hJ3 ⟨_, HE.out.symm⟩)
              dsimp only at hy
              gi_wp2
              refine ⟨rfl, ?_⟩
              refine hR.mono ?_
              rintro e B (⟨rfl, hJB, hkB⟩ | ⟨rfl, hJB, hkB⟩)
              · gi_wp2
                subst hY
                refine ⟨⟨_, _, _, _, _, _, _, _, _, _, _, _, _, _, _, _, _, _, _, _, _, _, _, _, _, _, _, _, _, _, _, _, _, _, _, _, _, _, _, _, _, _, _, _, _, _, _, _, _, _, _, _, _, _, _, _, _, _, _, _, _, _, _, _, ⟨i + 1, pre ++ kd i ++ [(k, v)], congrArg (Value.int .i64) (Int.natCast_succ i).symm, hlt, HE, hJB, hk3.trans hkB, HM3.kc (C := C) hkB hCW0⟩, rfl⟩, ?_⟩
                simp [intOf]; omega
              · gi_wp2
                refine leave_marks rfl (HM3.kc (C := C) hkB hCW0) (fun w' hw' => ?_)
                exact ⟨⟨_, rfl⟩, Or.inr ⟨_, ⟨_, HE.out.symm⟩, HJx.out _ _ _ hJB (hw'.mono sz)⟩, (((KC.of hbW0).trans hk3).trans hkB).below (hw'.mono sz)⟩
        · obtain rfl : i = xs.length := by omega
          have hsp := spI_end (xs := xs) (kd := kd) (lo := lo) (hi := hi)
          have HE : Hid (SP = pre ++ kd xs.length) := by unfold Hid; rw [HI.out, hsp]
          clear hsp HI
          refine any_tailIn (by kernel_rfl) 30 (by exact Nat.le_of_ble_eq_true rfl) (fun i => i + 34) (mixR [] [.int .i64 (xs.length : Int), .pointer (some ⟨bn, 0, none⟩), .slice p xs.length c, .int .i64 (xs.length : Int), .bool true, .bool true, undef, undef, undef, undef, undef, undef, undef, undef, undef, .bool true, .bool true, undef, undef, undef, undef, undef, undef, undef, undef, undef, undef, undef, undef, undef]) (by kernel_rfl) (by kernel_rfl) (by kernel_rfl) (by kernel_rfl) (mixR_later _ _ (stab_nil)) ?step ?post
          case step =>
            intro iq hiq a W hrest hb hk
            have hp1 : a.eval (.tmp 1) = .pointer (some ⟨bn, 0, none⟩) := (hrest 1 (by intro iq2 hiq2; (repeat' split) <;> omega)).trans rfl
            have fp1 := ev hp1
            have hx1 : W.heap[bn]? = some (.cells #[.slice p xs.length c, .slice (some ⟨qb, qo, none⟩) ts.length d] 59 (0, 0)) := (hb.block _ (lt_of_row rn)).trans rn
            have hp2 : a.eval (.tmp 2) = .pointer (some ⟨bs, 0, none⟩) := (hrest 2 (by intro iq2 hiq2; (repeat' split) <;> omega)).trans rfl
            have fp2 := ev hp2
            have hx2 : W.heap[bs]? = some (.cells #[.string lo, .string hi] 24 (0, 0)) := (hb.block _ (lt_of_row rs)).trans rs
            have hp4 : a.eval (.tmp 4) = .int .i64 (xs.length : Int) := (hrest 4 (by intro iq2 hiq2; (repeat' split) <;> omega)).trans rfl
            have fp4 := ev hp4
            clear hrest
            obtain rfl | rfl | rfl | rfl | rfl | rfl | rfl | rfl | rfl | rfl | rfl | rfl | rfl | rfl | rfl | rfl | rfl | rfl | rfl | rfl | rfl | rfl | rfl | rfl | rfl | rfl | rfl | rfl | rfl | rfl : iq = 0 ∨ iq = 1 ∨ iq = 2 ∨ iq = 3 ∨ iq = 4 ∨ iq = 5 ∨ iq = 6 ∨ iq = 7 ∨ iq = 8 ∨ iq = 9 ∨ iq = 10 ∨ iq = 11 ∨ iq = 12 ∨ iq = 13 ∨ iq = 14 ∨ iq = 15 ∨ iq = 16 ∨ iq = 17 ∨ iq = 18 ∨ iq = 19 ∨ iq = 20 ∨ iq = 21 ∨ iq = 22 ∨ iq = 23 ∨ iq = 24 ∨ iq = 25 ∨ iq = 26 ∨ iq = 27 ∨ iq = 28 ∨ iq = 29 := by omega
            · clear hiq
              clear hk
              refine ⟨_, rfl, rfl, Or.inl ⟨wanted_none rfl, wpIn_value (v := .int .i64 (xs.length : Int)) (w' := W) ?_ ⟨_, rfl, Below.refl _ _, rfl⟩⟩⟩
              go_simp
            · clear hiq
              clear hk
              refine ⟨_, rfl, rfl, Or.inl ⟨wanted_none rfl, wpIn_value (v := .pointer (some ⟨bn, 0, none⟩)) (w' := W) ?_ ⟨_, rfl, Below.refl _ _, rfl⟩⟩⟩
              go_simp
            · clear hiq
              have e1 : a.eval (.tmp 35) = .pointer (some ⟨bn, 0, none⟩) := hk 1 (mem_of (by kernel_rfl))
              have f1 := ev e1
              have hc : W.cell? ⟨bn, 0, none⟩ = some (.slice p xs.length c) := cell_of_row W _ 0 _ _ _ hx1
              clear hk
              refine ⟨_, rfl, rfl, Or.inl ⟨wanted_none rfl, wpIn_value (v := .slice p xs.length c) (w' := W) ?_ ⟨_, rfl, Below.refl _ _, rfl⟩⟩⟩
              go_simp
            · clear hiq
              have e2 : a.eval (.tmp 36) = .slice p xs.length c := hk 2 (mem_of (by kernel_rfl))
              have f2 := ev e2
              clear hk
              refine ⟨_, rfl, rfl, Or.inl ⟨wanted_none rfl, wpIn_value (v := .int .i64 (xs.length : Int)) (w' := W) ?_ ⟨_, rfl, Below.refl _ _, rfl⟩⟩⟩
              go_simp
            · clear hiq
              have e0 : a.eval (.tmp 34) = .int .i64 (xs.length : Int) := hk 0 (mem_of (by kernel_rfl))
              have f0 := ev e0
              have e3 : a.eval (.tmp 37) = .int .i64 (xs.length : Int) := hk 3 (mem_of (by kernel_rfl))
              have f3 := ev e3
              clear hk
              refine ⟨_, rfl, rfl, Or.inl ⟨wanted_none rfl, wpIn_value (v := .bool true) (w' := W) ?_ ⟨_, rfl, Below.refl _ _, rfl⟩⟩⟩
              go_simp
            · clear hiq
              have e4 : a.eval (.tmp 38) = .bool true := hk 4 (mem_of (by kernel_rfl))
              have f4 := ev e4
              clear hk
              refine ⟨_, rfl, rfl, Or.inl ⟨wanted_none rfl, wpIn_value (v := .bool true) (w' := W) ?_ ⟨_, rfl, Below.refl _ _, rfl⟩⟩⟩
              go_simp
            · clear hiq
              have e5 : a.eval (.tmp 39) = .bool true := hk 5 (mem_of (by kernel_rfl))
              have f5 := ev e5
              exact ⟨_, rfl, rfl, Or.inr ⟨unwanted_of (k := 5) (b := false) (c := true) rfl rfl e5 rfl, rfl⟩⟩
            · clear hiq
              have e5 : a.eval (.tmp 39) = .bool true := hk 5 (mem_of (by kernel_rfl))
              have f5 := ev e5
              exact ⟨_, rfl, rfl, Or.inr ⟨unwanted_of (k := 5) (b := false) (c := true) rfl rfl e5 rfl, rfl⟩⟩
            · clear hiq
              have e5 : a.eval (.tmp 39) = .bool true := hk 5 (mem_of (by kernel_rfl))
              have f5 := ev e5
              exact ⟨_, rfl, rfl, Or.inr ⟨unwanted_of (k := 5) (b := false) (c := true) rfl rfl e5 rfl, rfl⟩⟩
            · clear hiq
              have e5 : a.eval (.tmp 39) = .bool true := hk 5 (mem_of (by kernel_rfl))
              have f5 := ev e5
              exact ⟨_, rfl, rfl, Or.inr ⟨unwanted_of (k := 5) (b := false) (c := true) rfl rfl e5 rfl, rfl⟩⟩
            · clear hiq
              have e5 : a.eval (.tmp 39) = .bool true := hk 5 (mem_of (by kernel_rfl))
              have f5 := ev e5
              exact ⟨_, rfl, rfl, Or.inr ⟨unwanted_of (k := 5) (b := false) (c := true) rfl rfl e5 rfl, rfl⟩⟩
            · clear hiq
              have e5 : a.eval (.tmp 39) = .bool true := hk 5 (mem_of (by kernel_rfl))
              have f5 := ev e5
              exact ⟨_, rfl, rfl, Or.inr ⟨unwanted_of (k := 5) (b := false) (c := true) rfl rfl e5 rfl, rfl⟩⟩
            · clear hiq
              have e5 : a.eval (.tmp 39) = .bool true := hk 5 (mem_of (by kernel_rfl))
              have f5 := ev e5
              exact ⟨_, rfl, rfl, Or.inr ⟨unwanted_of (k := 5) (b := false) (c := true) rfl rfl e5 rfl, rfl⟩⟩
            · clear hiq
              have e5 : a.eval (.tmp 39) = .bool true := hk 5 (mem_of (by kernel_rfl))
              have f5 := ev e5
              exact ⟨_, rfl, rfl, Or.inr ⟨unwanted_of (k := 5) (b := false) (c := true) rfl rfl e5 rfl, rfl⟩⟩
            · clear hiq
              have e5 : a.eval (.tmp 39) = .bool true := hk 5 (mem_of (by kernel_rfl))
              have f5 := ev e5
              exact ⟨_, rfl, rfl, Or.inr ⟨unwanted_of (k := 5) (b := false) (c := true) rfl rfl e5 rfl, rfl⟩⟩
            · clear hiq
              have e5 : a.eval (.tmp 39) = .bool true := hk 5 (mem_of (by kernel_rfl))
              have f5 := ev e5
              have e14 : a.eval (.tmp 48) = undef := hk 14 (mem_of (by kernel_rfl))
              have f14 := ev e14
              clear hk
              refine ⟨_, rfl, rfl, Or.inl ⟨wanted_none rfl, wpIn_value (v := .bool true) (w' := W) ?_ ⟨_, rfl, Below.refl _ _, rfl⟩⟩⟩
              go_simp
            · clear hiq
              have e15 : a.eval (.tmp 49) = .bool true := hk 15 (mem_of (by kernel_rfl))
              have f15 := ev e15
              clear hk
              refine ⟨_, rfl, rfl, Or.inl ⟨wanted_none rfl, wpIn_value (v := .bool true) (w' := W) ?_ ⟨_, rfl, Below.refl _ _, rfl⟩⟩⟩
              go_simp
            · clear hiq
              have e16 : a.eval (.tmp 50) = .bool true := hk 16 (mem_of (by kernel_rfl))
              have f16 := ev e16
              exact ⟨_, rfl, rfl, Or.inr ⟨unwanted_of (k := 16) (b := false) (c := true) rfl rfl e16 rfl, rfl⟩⟩
            · clear hiq
              have e16 : a.eval (.tmp 50) = .bool true := hk 16 (mem_of (by kernel_rfl))
              have f16 := ev e16
              exact ⟨_, rfl, rfl, Or.inr ⟨unwanted_of (k := 16) (b := false) (c := true) rfl rfl e16 rfl, rfl⟩⟩
            · clear hiq
              have e16 : a.eval (.tmp 50) = .bool true := hk 16 (mem_of (by kernel_rfl))
              have f16 := ev e16
              exact ⟨_, rfl, rfl, Or.inr ⟨unwanted_of (k := 16) (b := false) (c := true) rfl rfl e16 rfl, rfl⟩⟩
            · clear hiq
              have e16 : a.eval (.tmp 50) = .bool true := hk 16 (mem_of (by kernel_rfl))
              have f16 := ev e16
              exact ⟨_, rfl, rfl, Or.inr ⟨unwanted_of (k := 16) (b := false) (c := true) rfl rfl e16 rfl, rfl⟩⟩
            · clear hiq
              have e16 : a.eval (.tmp 50) = .bool true := hk 16 (mem_of (by kernel_rfl))
              have f16 := ev e16
              exact ⟨_, rfl, rfl, Or.inr ⟨unwanted_of (k := 16) (b := false) (c := true) rfl rfl e16 rfl, rfl⟩⟩
            · clear hiq
              have e16 : a.eval (.tmp 50) = .bool true := hk 16 (mem_of (by kernel_rfl))
              have f16 := ev e16
              exact ⟨_, rfl, rfl, Or.inr ⟨unwanted_of (k := 16) (b := false) (c := true) rfl rfl e16 rfl, rfl⟩⟩
            · clear hiq
              have e16 : a.eval (.tmp 50) = .bool true := hk 16 (mem_of (by kernel_rfl))
              have f16 := ev e16
              exact ⟨_, rfl, rfl, Or.inr ⟨unwanted_of (k := 16) (b := false) (c := true) rfl rfl e16 rfl, rfl⟩⟩
            · clear hiq
              have e16 : a.eval (.tmp 50) = .bool true := hk 16 (mem_of (by kernel_rfl))
              have f16 := ev e16
              exact ⟨_, rfl, rfl, Or.inr ⟨unwanted_of (k := 16) (b := false) (c := true) rfl rfl e16 rfl, rfl⟩⟩
            · clear hiq
              have e16 : a.eval (.tmp 50) = .bool true := hk 16 (mem_of (by kernel_rfl))
              have f16 := ev e16
              exact ⟨_, rfl, rfl, Or.inr ⟨unwanted_of (k := 16) (b := false) (c := true) rfl rfl e16 rfl, rfl⟩⟩
            · clear hiq
              have e16 : a.eval (.tmp 50) = .bool true := hk 16 (mem_of (by kernel_rfl))
              have f16 := ev e16
              exact ⟨_, rfl, rfl, Or.inr ⟨unwanted_of (k := 16) (b := false) (c := true) rfl rfl e16 rfl, rfl⟩⟩
            · clear hiq
              have e16 : a.eval (.tmp 50) = .bool true := hk 16 (mem_of (by kernel_rfl))
              have f16 := ev e16
              exact ⟨_, rfl, rfl, Or.inr ⟨unwanted_of (k := 16) (b := false) (c := true) rfl rfl e16 rfl, rfl⟩⟩
            · clear hiq
              have e16 : a.eval (.tmp 50) = .bool true := hk 16 (mem_of (by kernel_rfl))
              have f16 := ev e16
              exact ⟨_, rfl, rfl, Or.inr ⟨unwanted_of (k := 16) (b := false) (c := true) rfl rfl e16 rfl, rfl⟩⟩
            · clear hiq
              have e16 : a.eval (.tmp 50) = .bool true := hk 16 (mem_of (by kernel_rfl))
              have f16 := ev e16
              exact ⟨_, rfl, rfl, Or.inr ⟨unwanted_of (k := 16) (b := false) (c := true) rfl rfl e16 rfl, rfl⟩⟩
          case post =>
            intro V W hb hV
            have v16 : V 16 = .bool true := hV 16 (by omega)
            clear hV
            simp only [putAll, Nat.reduceAdd]
            simp only [Act.put, List.setIfInBounds_toArray, List.set_cons_zero, List.set_cons_succ]
            rw [v16]
            change wpListIn _ _ _ _ _ [_, _, _] _ _
            refine wpListIn_skip (unwanted_of (k := 16) (b := false) (c := true) rfl rfl rfl rfl) ?_
            refine wpListIn_skip (unwanted_of (k := 16) (b := false) (c := true) rfl rfl rfl rfl) ?_
            simp only [Act.put, List.setIfInBounds_toArray, List.set_cons_zero, List.set_cons_succ]
            gi_wp2
            refine leave_marks rfl (HM2.out.kc (C := C) (KC.of hb) hCW0) (fun w' hw' => ?_)
            refine ⟨⟨_, rfl⟩, Or.inl ?_, ?_⟩
            · rw [HE.out]; exact HJ.out _ _ _ (HJ.out _ _ _ hJ2 (hb.mono (Nat.le_trans sz hk2.size))) (hw'.mono sz)
            · exact (((KC.of hbW0).trans hk2).trans (KC.of hb)).below (hw'.mono sz)
end Go.Proofs.Ytiplmlalhmldbaa
