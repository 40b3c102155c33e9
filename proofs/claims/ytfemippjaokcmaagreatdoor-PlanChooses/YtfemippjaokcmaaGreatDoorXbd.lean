/- The laws' Choose as a fold over what is said, beside the program's: plain. The laws' parts: two lists of one's own, one behind the other; an expression that nothing joins. The laws' parts: an expression whose two sides AND joins; any expression. A value as the document has it (Ref): the same tree, of any value that has not too many parts. The laws' plus: the least text above all that begin with one. The laws' Choose: the key of a literal that is said; the memory of its loop. -/
import Derived.Test.YtfemippjaokcmaaGreatDoorXbc
import Derived.Test.YtfemippjaokcmaaGreatDoorXay
import Derived.Maps.AppendAt
import Derived.Deep.RegionLaw
import Derived.Test.YtfemippjaokcmaaGreatDoorXaw
import Derived.Test.YtfemippjaokcmaaGreatDoorXba
import Derived.Test.YtfemippjaokcmaaGreatDoorXax
import Derived.Laws.IdiomStrings
import Derived.Lib.SmallJoins
import Derived.Test.YtfemippjaokcmaaGreatDoorXbb
import Derived.Test.YtfemippjaokcmaaGreatDoorXau
import Derived.Test.YtfemippjaokcmaaGreatDoorXas
namespace Go.Proofs.YtfemippjaokcmaaGreatDoor
open Go.RowKit Go.Shelf
theorem dot_iff (f : ByteArray) : dotB f = true ↔ ¬ noDot f := by
  unfold dotB noDot
  rw [decide_eq_true_eq]
  constructor
  · intro h hn
    obtain ⟨o, ho⟩ : ∃ o : Nat, Lib.indexByte f.data.toList 46 = o := ⟨(Lib.indexByte f.data.toList 46).toNat, by omega⟩
    have h1 := (Lib.indexByte_some ho).1
    exact hn 46 (List.mem_of_getElem? h1) rfl
  · intro h
    have hge := Lib.indexByte_ge f.data.toList 46
    rcases Int.lt_or_le (Lib.indexByte f.data.toList 46) 0 with hlt | hle
    · exfalso
      have e : Lib.indexByte f.data.toList 46 = -1 := by omega
      refine h (fun c hc e2 => ?_)
      subst e2
      obtain ⟨k, hk⟩ := List.getElem?_of_mem hc
      exact Lib.indexByte_none e k hk
    · exact hle
theorem text_eq {a b : ByteArray} (h : a.toList = b.toList) : a = b := by
  rw [Lib.toList_data, Lib.toList_data] at h
  exact ByteArray.ext (Array.ext' h)
theorem nop_nil : noP.1.toList = [] := by rw [Lib.toList_data]; rfl
/- One part more, as the laws' Choose takes it. -/
def lawStep (l : List ByteArray) (p : P3) (r : S7) : P3 := if (r.ok && (Lib.containsS l r.f && (p.1.toList.isEmpty || p.1.toList == r.f.toList))) = true then (r.f, V.maxS p.2.1 (planS r).2.1, V.lowerB p.2.2 (planS r).2.2) else p
/- What is said by both. -/
def Both (x : S7 × P3) : Prop := (x.1.ok = true → x.2 = planS x.1 ∧ dotB x.1.f = false ∧ x.1.f.toList ≠ []) ∧ (x.1.ok = false → x.2 = noP ∨ dotB x.2.1 = true)
theorem law_more (l : List ByteArray) {f : ByteArray} (hf : f.toList ≠ []) (hd : dotB f = false) (hc : Lib.containsS l f = true) : ∀ (L : List (S7 × P3)), (∀ x ∈ L, Both x) → ∀ s, (L.map Prod.fst).foldl (lawStep l) (f, s) = (f, meetL f s (L.map Prod.snd))
  | [], _, _ => rfl
  | (r, p) :: L, h, s => by
    have hx := h (r, p) (List.mem_cons_self ..)
    have hstep : lawStep l (f, s) r = (f, if (p.1.toList == f.toList) = true then (V.maxS s.1 p.2.1, V.lowerB s.2 p.2.2) else s) := by
      have hfe : f.toList.isEmpty = false := by
        cases hq : f.toList with
        | nil => exact absurd hq hf
        | cons => rfl
      cases hok : r.ok with
      | true =>
        obtain ⟨h1, -, -⟩ := hx.1 hok
        have h1 : p = planS r := h1
        subst h1
        by_cases e : f.toList = r.f.toList
        · have ef := text_eq e
          unfold lawStep
          rw [if_pos (by simp [hok, ← ef, hc]), if_pos (by show (r.f.toList == f.toList) = true; rw [e]; simp), ← ef]
        · unfold lawStep
          rw [if_neg (by simp only [hok, hfe, Bool.true_and, Bool.false_or, Bool.and_eq_true, beq_iff_eq, not_and]; exact fun _ => e), if_neg (by show ¬ (r.f.toList == f.toList) = true; rw [beq_iff_eq]; exact fun e2 => e e2.symm)]
      | false =>
        unfold lawStep
        rw [if_neg (by simp [hok]), if_neg]
        rw [beq_iff_eq]
        intro e
        have ef := text_eq e
        rcases hx.2 hok with h1 | h1
        · have h1 : p = noP := h1
          subst h1
          exact hf (by rw [← ef]; exact nop_nil)
        · have h1 : dotB p.1 = true := h1
          rw [ef, hd] at h1
          cases h1
    show (L.map Prod.fst).foldl (lawStep l) (lawStep l (f, s) r) = _
    rw [hstep, law_more l hf hd hc L (fun x hx => h x (List.mem_cons_of_mem _ hx)) _]
    rfl
theorem law_choose (l : List ByteArray) : ∀ (L : List (S7 × P3)), (∀ x ∈ L, Both x) → (L.map Prod.fst).foldl (lawStep l) noP = chooseL (L.map Prod.snd) l
  | [], _ => rfl
  | (r, p) :: L, h => by
    have hx := h (r, p) (List.mem_cons_self ..)
    have hL := fun x hx => h x (List.mem_cons_of_mem _ hx)
    show (L.map Prod.fst).foldl (lawStep l) (lawStep l noP r) = chooseL (p :: L.map Prod.snd) l
    by_cases hy : r.ok = true ∧ Lib.containsS l r.f = true
    · obtain ⟨h1, h2, h3⟩ := hx.1 hy.1
      have h1 : p = planS r := h1
      subst h1
      have hs : servesB (planS r).1 l = true := by
        show servesB r.f l = true
        have h3' : r.f.toList.isEmpty = false := by
          cases hq : r.f.toList with
          | nil => exact absurd hq h3
          | cons => rfl
        have h2' : dotB r.f = false := h2
        unfold servesB
        rw [h3', h2', hy.2]
        rfl
      have hst : lawStep l noP r = (r.f, V.maxS ⟨#[]⟩ (planS r).2.1, V.lowerB ⟨#[]⟩ (planS r).2.2) := by
        unfold lawStep
        rw [if_pos (by rw [hy.1, hy.2, nop_nil]; rfl)]
        rfl
      rw [hst, law_more l h3 h2 hy.2 L hL]
      unfold chooseL
      rw [List.find?_cons_of_pos (p := fun p : P3 => servesB p.1 l) hs]
      show (r.f, _) = (r.f, meetL r.f (⟨#[]⟩, ⟨#[]⟩) (planS r :: L.map Prod.snd))
      unfold meetL
      rw [List.foldl_cons, if_pos (by show (r.f.toList == r.f.toList) = true; simp)]
    · have hst : lawStep l noP r = noP := by
        unfold lawStep
        rw [if_neg]
        intro h1
        simp only [Bool.and_eq_true] at h1
        exact hy ⟨h1.1, h1.2.1⟩
      have hs : servesB p.1 l = false := by
        cases hok : r.ok with
        | true =>
          obtain ⟨h1, -, -⟩ := hx.1 hok
          have h1 : p = planS r := h1
          subst h1
          show servesB r.f l = false
          unfold servesB
          have : Lib.containsS l r.f = false := by
            cases hq : Lib.containsS l r.f with
            | true => exact absurd ⟨hok, hq⟩ hy
            | false => rfl
          rw [this]
          simp
        | false =>
          rcases hx.2 hok with h1 | h1
          · have h1 : p = noP := h1
            subst h1
            unfold servesB
            rw [nop_nil]
            rfl
          · have h1 : dotB p.1 = true := h1
            unfold servesB
            rw [h1]
            simp
      rw [hst, law_choose l L hL]
      unfold chooseL
      rw [List.find?_cons_of_neg (p := fun p : P3 => servesB p.1 l) (by rw [hs]; decide)]
      cases hfd : (L.map Prod.snd).find? (fun p => servesB p.1 l) with
      | none => rfl
      | some q =>
        have hq := List.find?_some hfd
        show (q.1, _) = (q.1, meetL q.1 (⟨#[]⟩, ⟨#[]⟩) (p :: L.map Prod.snd))
        unfold meetL
        rw [List.foldl_cons, if_neg]
        rw [beq_iff_eq]
        intro e
        rw [text_eq e] at hs
        have hq' : servesB q.1 l = true := hq
        rw [hq'] at hs
        cases hs
theorem lsC_field {sg : ByteArray} {f l : En} (h : f.k = 2 → f.s.toList ≠ []) (hok : (lsC sg f l).ok = true) : noDot (lsC sg f l).f ∧ (lsC sg f l).f.toList ≠ [] := by
  unfold lsC at hok ⊢
  split at hok
  · next hd =>
    rw [if_pos hd]
    simp only [Bool.and_eq_true, beq_iff_eq] at hok
    exact ⟨hd, h (by omega)⟩
  · exact absurd hok (by decide)
/- A field that is said has no point in it, and is not empty, where no field is. -/
theorem lsE_field {t : Et} (h : ∀ i, i < 2 → (t.sub i []).k = 2 → (t.sub i []).s.toList ≠ []) (hok : (lsE t).ok = true) : noDot (lsE t).f ∧ (lsE t).f.toList ≠ [] := by
  unfold lsE lsF at hok ⊢
  split at hok
  · next h1 =>
    rw [if_pos h1]
    split at hok
    · next h2 =>
      rw [if_pos h2]
      exact lsC_field (h 1 (by omega)) hok
    · next h2 =>
      rw [if_neg h2]
      exact lsC_field (h 0 (by omega)) hok
  · exact absurd hok (by decide)
/- The laws' Choose of an expression's parts is the program's. -/
theorem law_is (T : List Et) (l : List ByteArray) (hne : ∀ t ∈ T, (lsE t).ok = true → noDot (lsE t).f ∧ (lsE t).f.toList ≠ []) : (T.map lsE).foldl (lawStep l) noP = chooseL (T.map saidE) l := by
  have h := law_choose l (T.map fun t => (lsE t, saidE t)) (fun x hx => by
    obtain ⟨t, ht, rfl⟩ := List.mem_map.1 hx
    obtain ⟨h1, h2⟩ := said_law t
    refine ⟨fun hok => ⟨h1 hok, ?_, (hne t ht hok).2⟩, fun hok => ?_⟩
    · cases hq : dotB (lsE t).f with
      | true => exact absurd (hne t ht hok).1 ((dot_iff _).1 hq)
      | false => rfl
    · rcases h2 hok with h3 | h3
      · exact .inl h3
      · exact .inr ((dot_iff _).2 h3))
  rw [List.map_map, List.map_map] at h
  exact h
end Go.Proofs.YtfemippjaokcmaaGreatDoor
namespace Go.Proofs.YtfemippjaokcmaaGreatDoor
open Go.RowKit Go.Shelf
attribute [local go_sem] Oper.semAt_some fw0 fw1 fw2
theorem run_append_nil2 {P : Program} {w : World} (base : Nat) (t ty e : TypeId) (i : TypeInfo) (ht : P.underlying t = some (.slice e)) (hi : P.info? e = some i) (v : Value) (n size : Nat) (xs : List Value) (hown : w.ownsRow base e size v n xs) :
    (Builtin.append_ #[t, t] ty #[v, .slice none 0 0]).run P w = .ok v w := by
  rcases hown.2 with ⟨rfl, rfl⟩ | ⟨g, cap, cur, rfl, hbg, hg, hnc, hcm, hcs, htake⟩
  · simp [Builtin.append_, run_underlying ht, sizeOf, typeInfo, hi, Builtin.lenOf, Builtin.firstCells]
  · simp [Builtin.append_, run_underlying ht, sizeOf, typeInfo, hi, Builtin.lenOf, Builtin.firstCells, loadCells, hnc, storeCells]
theorem Els.cat {α : Type} {E : World → (Nat → Prop) → α → List Value → Prop} {w : World} {S : Nat → Prop} {l2 : List α} {L2 : List Value} (h2 : Els E w S l2 L2) : ∀ {l : List α} {L : List Value}, Els E w S l L → Els E w S (l ++ l2) (L ++ L2)
  | [], L, h => by
    have h' : L = [] := h
    subst h'
    exact h2
  | _ :: _, _, ⟨c, r, h1, h3, h4⟩ => ⟨c, r ++ L2, by rw [h1]; simp, h3, Els.cat h2 h4⟩
theorem Els.one' {α : Type} {E : World → (Nat → Prop) → α → List Value → Prop} {z : Nat} (hE : Elem E z) {w : World} {S : Nat → Prop} : ∀ {l : List α} {L : List Value}, Els E w S l L → ∀ u ∈ L, u.oneCell' = true
  | [], L, h, u, hu => by
    have h' : L = [] := h
    subst h'
    simp at hu
  | _ :: _, _, ⟨c, r, h1, h2, h3⟩, u, hu => by
    subst h1
    rcases List.mem_append.1 hu with hu | hu
    · exact hE.ones h2 u hu
    · exact Els.one' hE h3 u hu
/- Two lists of one's own: the second behind the first. -/
theorem Ow.cat {α : Type} {E : World → (Nat → Prop) → α → List Value → Prop} {T z base : Nat} (hE : Elem E z) {W W3 : World} {v v' : Value} {l l2 : List α} {L L2 : List Value} (hown : W.ownsRow base T z v l.length L) (h1 : Els E W (fun k => k < base) l L) (h2 : Els E W (fun k => k < base) l2 L2)
    (ho : W3.ownsRow base T z v' (l.length + l2.length) (L ++ L2)) (hg : W.grownBy W3 v.ownBlock) : Ow E T z base W3 v' (l ++ l2) := by
  have hu := fun k hk => (hown.lt k hk).1
  refine ⟨L ++ L2, by rw [show (l ++ l2).length = l.length + l2.length by simp]; exact ho, ?_⟩
  refine (Els.cat h2 h1).since hE ⟨hg.size, fun k hk hl => ?_⟩
  refine hg.block k hl (fun e => ?_)
  have hk' : k < base := hk
  have := hu k e.symm
  omega
/- append of two such lists, as one step of a region. -/
theorem step_append_ow {P : Program} (w : World) {ops : Array Oper} {o : Oper} {a : Act} {K : Act → World → Prop} {Q : Exit → Act → World → Prop} {G : Prop} (hgd : o.guard = none) (s x : Operand) (t : TypeId)
    (ho : o.op = .call { callee := .builtin .append, args := #[s, x], argTypes := #[t, t] })
    (base : Nat) (e : TypeId) (i : TypeInfo) (z : Value) (size bytes : Nat) (ht : P.underlying t = some (.slice e)) (hi : P.info? e = some i) (hz : i.zero = some z)
    (hsize : i.size = size) (hby : i.bytes = bytes) (hzs : z.cells.size = size) (hsz : 0 < size) {α : Type} {E : World → (Nat → Prop) → α → List Value → Prop} (hE : Elem E size)
    (v v2 : Value) (l l2 : List α) (hs : a.eval s = v) (hx : a.eval x = v2) (h1 : Ow E e size base w v l) (h2 : Ow E e size base w v2 l2)
    (h63 : l.length + l2.length ≤ maxLen) (hbytes : (l.length + l2.length) * bytes ≤ 140737488355328) (hbase : base ≤ w.heap.size)
    (h : ∀ v' w', Ow E e size base w' v' (l ++ l2) → w.grownBy w' v.ownBlock → (v'.ownBlock = v.ownBlock ∨ v'.ownBlock = some w.heap.size) → K (a.put o.dst v') w') :
    if Region.wanted o (yielded ops a.tmps) = true then Oper.wp P o a w K Q else G := by
  have hw : Region.wanted o (yielded ops a.tmps) = true := by simp [Region.wanted, hgd]
  rw [if_pos hw]
  obtain ⟨L, o1, e1⟩ := h1.own
  obtain ⟨L2, o2, e2⟩ := h2.own
  have key : ∃ v' w', (Builtin.append_ #[t, t] o.type #[v, v2]).run P w = .ok v' w' ∧ Ow E e size base w' v' (l ++ l2) ∧ w.grownBy w' v.ownBlock ∧ (v'.ownBlock = v.ownBlock ∨ v'.ownBlock = some w.heap.size) := by
    rcases o2.2 with ⟨rfl, hn⟩ | ⟨g, cap, cur, rfl, hbg, hg, hnc, hcm, hcs, htake⟩
    · have hl2 : l2 = [] := List.eq_nil_of_length_eq_zero hn
      subst hl2
      refine ⟨v, w, run_append_nil2 base t o.type e i ht hi v l.length size L o1, by rw [List.append_nil]; exact h1, ⟨rfl, rfl, rfl, Nat.le_refl _, fun _ _ _ => rfl⟩, .inl rfl⟩
    · obtain ⟨v', w', hr, q2, q3, q4, q5⟩ := run_append_own_at (P := P) w base t o.type e i z size bytes ht hi hz hsize hby hzs hsz v l.length L o1 ⟨g, 0, none⟩ l2.length cap L2 o2.1 (o2.cells (g := g) rfl) (Els.one' hE e2) h63 hbytes hbase
      exact ⟨v', w', hr, Ow.cat hE o1 e1 e2 q2 q3, q3, q5⟩
  obtain ⟨v', w', hr, q2, q3, q4⟩ := key
  unfold Oper.wp execOp
  simp only [ho, resolve, invoke, builtin, Sem.run_bind, Sem.run_pure, Result.andThen_ok, List.map_toArray, List.map_cons, List.map_nil, hs, hx, hr]
  exact h v' w' q2 q3 q4
def GivesLP (base : Nat) (W : World) (m : List Et) (e : Ending) (W' : World) : Prop := ∃ v, e = .returned v ∧ Ow EExp 28 10 base W' v m ∧ Below W.heap.size W W' ∧ (∀ k, v.ownBlock = some k → W.heap.size ≤ k) ∧ W.heap.size < W'.heap.size
def LpaC (d : Nat) : Prop := ∀ (t : Et) (R : XR) (base : Nat) (W : World), LiesE W (fun k => k < base) d t (rowX R) → base ≤ W.heap.size → (partsE d t).length ≤ 100000 → Calls Tryz.prog 12 #[rowX R] W (GivesLP base W (partsE d t))
set_option maxRecDepth 100000 in
set_option maxHeartbeats 4000000 in
theorem lparts_none {d : Nat} {t : Et} {R : XR} {base : Nat} {W : World} (hx : LiesE W (fun k => k < base) d t (rowX R)) (hk : (t []).k = 0) : Calls Tryz.prog 12 #[rowX R] W (GivesLP base W []) := by
  obtain ⟨h1, -⟩ := hx.tops
  have hk0 : R.k = 0 := by rw [h1, hk]; rfl
  obtain ⟨k0, s, vk, vb, vn, vs, kp, n, kc, np, m, nc⟩ := R
  simp only at hk0
  subst hk0
  clear hx h1
  unfold rowX
  go_enter Tryz.func12, Tryz.ntmps12
  go_wp2
  go_ret
  have hb1 : Below W.heap.size W (W.alloc (.cells #[.int .i64 0, .string s, .int .i64 vk, .bool vb, .int .i64 vn, .string vs, .slice none 0 0, .slice none 0 0, .slice kp n kc, .slice np m nc] 28)) := (Below.refl _ W).alloc (Nat.le_refl _) _
  refine ⟨.slice none 0 0, rfl, Ow.start EExp 28 10 base _, hb1, fun k hk => ?_, by simp⟩
  simp [Value.ownBlock] at hk
set_option maxRecDepth 100000 in
set_option maxHeartbeats 4000000 in
theorem lparts_one {d : Nat} {t : Et} {R : XR} {base : Nat} {W : World} (hx : LiesE W (fun k => k < base) d t (rowX R)) (hb : base ≤ W.heap.size) (hk : ¬ (t []).k = 0) (hn : ¬ ((t []).k = 6 ∧ (t []).s.data.toList = [65, 78, 68] ∧ (t []).n = 2)) : Calls Tryz.prog 12 #[rowX R] W (GivesLP base W [t]) := by
  obtain ⟨h1, h2, -, -, -, -, h7⟩ := hx.tops
  obtain ⟨k0, s, vk, vb, vn, vs, kp, n, kc, np, m, nc⟩ := R
  simp only at h1 h2 h7
  have f0 : (k0 == 0) = false := by rw [h1]; simp; omega
  have f6 : (k0 == 6) = decide ((t []).k = 6) := by rw [h1]; apply Bool.eq_iff_iff.2; simp; omega
  have fs : (s.toList == [65, 78, 68]) = decide ((t []).s.data.toList = [65, 78, 68]) := by rw [h2, Lib.toList_data]; apply Bool.eq_iff_iff.2; simp
  have fn : ((n : Int) == 2) = decide ((t []).n = 2) := by rw [h7]; apply Bool.eq_iff_iff.2; simp; omega
  obtain ⟨b6, hb6⟩ : ∃ b, decide ((t []).k = 6) = b := ⟨_, rfl⟩
  obtain ⟨bs, hbs⟩ : ∃ b, decide ((t []).s.data.toList = [65, 78, 68]) = b := ⟨_, rfl⟩
  obtain ⟨bn, hbn⟩ : ∃ b, decide ((t []).n = 2) = b := ⟨_, rfl⟩
  have hno : Hid ((b6 && bs && bn) = false) := by
    show (b6 && bs && bn) = false
    rw [← hb6, ← hbs, ← hbn]
    apply Bool.eq_false_iff.2
    intro h
    simp only [Bool.and_eq_true, decide_eq_true_eq] at h
    exact hn ⟨h.1.1, h.1.2, h.2⟩
  rw [hb6] at f6; rw [hbs] at fs; rw [hbn] at fn
  have HE : EExp W (fun k => k < base) t [.int .i64 k0, .string s, .int .i64 vk, .bool vb, .int .i64 vn, .string vs, .slice none 0 0, .slice none 0 0, .slice kp n kc, .slice np m nc] := ⟨d, hx⟩
  obtain ⟨W1, hW1⟩ : ∃ u, W.alloc (.cells #[.int .i64 k0, .string s, .int .i64 vk, .bool vb, .int .i64 vn, .string vs, .slice none 0 0, .slice none 0 0, .slice kp n kc, .slice np m nc] 28) = u := ⟨_, rfl⟩
  obtain ⟨r1, bw1⟩ := alloc1 hW1
  have HO : Hid (base ≤ W.heap.size ∧ EExp W (fun k => k < base) t [.int .i64 k0, .string s, .int .i64 vk, .bool vb, .int .i64 vn, .string vs, .slice none 0 0, .slice none 0 0, .slice kp n kc, .slice np m nc] ∧ Below W.heap.size W W1) := ⟨hb, HE, bw1⟩
  have HW1 := mkHid hW1
  have cx0 := cell_of_row W1 _ 0 _ _ _ r1
  have cx1 := cell_of_row W1 _ 1 _ _ _ r1
  have cx2 := cell_of_row W1 _ 2 _ _ _ r1
  have cx3 := cell_of_row W1 _ 3 _ _ _ r1
  have cx4 := cell_of_row W1 _ 4 _ _ _ r1
  have cx5 := cell_of_row W1 _ 5 _ _ _ r1
  have cx6 := cell_of_row W1 _ 6 _ _ _ r1
  have cx7 := cell_of_row W1 _ 7 _ _ _ r1
  have cx8 := cell_of_row W1 _ 8 _ _ _ r1
  have cx9 := cell_of_row W1 _ 9 _ _ _ r1
  have hsz1 := bw1.size
  have hsz2 : W1.heap.size = W.heap.size + 1 := by rw [← hW1]; simp
  clear hx h1 h2 h7 HE hW1 r1 bw1 hb6 hbs hbn hn hk
  unfold rowX
  go_enter Tryz.func12, Tryz.ntmps12
  rcases b6 with _ | _ <;> rcases bs with _ | _ <;> rcases bn with _ | _
  all_goals first
    | (exact absurd hno.out (by decide))
    | skip
  all_goals
    go_wp2_with (first | rw [HW1.out] | fail)
    go_ret
    have hbA : Below W.heap.size W (W1.alloc (.cells #[.int .i64 k0, .string s, .int .i64 vk, .bool vb, .int .i64 vn, .string vs, .slice none 0 0, .slice none 0 0, .slice kp n kc, .slice np m nc] 28)) := HO.out.2.2.alloc hsz1 _
    have hnew := heap_alloc_new W1 (.cells #[.int .i64 k0, .string s, .int .i64 vk, .bool vb, .int .i64 vn, .string vs, .slice none 0 0, .slice none 0 0, .slice kp n kc, .slice np m nc] 28)
    rw [hsz2] at hnew
    have hrow : (W1.alloc (.cells #[.int .i64 k0, .string s, .int .i64 vk, .bool vb, .int .i64 vn, .string vs, .slice none 0 0, .slice none 0 0, .slice kp n kc, .slice np m nc] 28)).ownsRow base 28 10 (.slice (some ⟨W.heap.size + 1, 0, none⟩) 1 1) 1 [.int .i64 k0, .string s, .int .i64 vk, .bool vb, .int .i64 vn, .string vs, .slice none 0 0, .slice none 0 0, .slice kp n kc, .slice np m nc] := ⟨rfl, .inr ⟨W.heap.size + 1, 1, #[.int .i64 k0, .string s, .int .i64 vk, .bool vb, .int .i64 vn, .string vs, .slice none 0 0, .slice none 0 0, .slice kp n kc, .slice np m nc], rfl, by have := HO.out.1; omega, hnew, Nat.le_refl _, by unfold maxLen; omega, rfl, rfl⟩⟩
    refine ⟨.slice (some ⟨W.heap.size + 1, 0, none⟩) 1 1, rfl, ⟨[.int .i64 k0, .string s, .int .i64 vk, .bool vb, .int .i64 vn, .string vs, .slice none 0 0, .slice none 0 0, .slice kp n kc, .slice np m nc], hrow, ⟨_, [], (List.append_nil _).symm, eExp.since HO.out.2.1 (Since.below hbA), rfl⟩⟩, hbA, fun k hk => ?_, by simp; omega⟩
    simp [Value.ownBlock] at hk
    omega
end Go.Proofs.YtfemippjaokcmaaGreatDoor
namespace Go.Proofs.YtfemippjaokcmaaGreatDoor
open Go.RowKit Go.Shelf
attribute [local go_sem] Oper.semAt_some fw0 fw1 fw2
theorem lp_end {W W1 W2 W3 w5 : World} {u1 v5 : Value} (bw1 : Below W.heap.size W W1) (hb2 : Below W1.heap.size W1 W2) (hu2 : ∀ k, u1.ownBlock = some k → W1.heap.size ≤ k) (hb3 : Below W2.heap.size W2 W3) (hgr : W3.grownBy w5 u1.ownBlock) (hat : v5.ownBlock = u1.ownBlock ∨ v5.ownBlock = some W3.heap.size) (hz : W.heap.size < W1.heap.size) : Below W.heap.size W w5 ∧ (∀ k, v5.ownBlock = some k → W.heap.size ≤ k) ∧ W.heap.size < w5.heap.size := by
  have b2 := bw1.trans (hb2.mono bw1.size)
  have b3 := b2.trans (hb3.mono b2.size)
  have z2 := hb2.size
  have z3 := hb3.size
  have z5 := hgr.size
  refine ⟨b3.grown hgr b3.size (fun k hk => by have := hu2 k hk; omega), fun k hk => ?_, by omega⟩
  rcases hat with h | h
  · have := hu2 k (h ▸ hk); omega
  · rw [h] at hk
    injection hk with hk
    omega
set_option maxRecDepth 100000 in
set_option maxHeartbeats 8000000 in
theorem lparts_and {d : Nat} (ih : LpaC d) {t : Et} {R : XR} {base : Nat} {W : World} (hx : LiesE W (fun k => k < base) (d + 1) t (rowX R)) (hb : base ≤ W.heap.size) (hl : (partsE d (t.sub 0)).length + (partsE d (t.sub 1)).length ≤ 100000) (hk : (t []).k = 6) (hs : (t []).s.data.toList = [65, 78, 68]) (hn : (t []).n = 2) : Calls Tryz.prog 12 #[rowX R] W (GivesLP base W (partsE d (t.sub 0) ++ partsE d (t.sub 1))) := by
  obtain ⟨h1, h2, -, -, -, -, h7⟩ := hx.tops
  obtain ⟨g, o, R0, R1, p1, p2, p3, p4, p5, p6, p7, p8⟩ := hx.pairD hn
  obtain ⟨k2, s2, vk2, vb2, vn2, vs2, kp2, n2, kc2, np2, m2, nc2⟩ := R
  obtain ⟨k0, s0, vk0, vb0, vn0, vs0, kp0, n0, kc0, np0, m0, nc0⟩ := R0
  obtain ⟨k1, s1, vk1, vb1, vn1, vs1, kp1, n1, kc1, np1, m1, nc1⟩ := R1
  simp only at h1 h2 h7 p1 p4
  obtain rfl : k2 = 6 := by rw [h1, hk]; rfl
  obtain rfl : n2 = 2 := by rw [h7, hn]
  subst p1
  have fs : (s2.toList == [65, 78, 68]) = true := by rw [h2, Lib.toList_data, hs]; rfl
  obtain ⟨i0, hi, hz0, hz1, hz2⟩ := info_parts info28c
  obtain ⟨W1, hW1⟩ : ∃ u, W.alloc (.cells #[.int .i64 6, .string s2, .int .i64 vk2, .bool vb2, .int .i64 vn2, .string vs2, .slice none 0 0, .slice none 0 0, .slice (some ⟨g, o, none⟩) 2 kc2, .slice np2 m2 nc2] 28) = u := ⟨_, rfl⟩
  obtain ⟨r1, bw1⟩ := alloc1 hW1
  have HW1 := mkHid hW1
  obtain ⟨A, hA⟩ : ∃ A, partsE d (t.sub 0) = A := ⟨_, rfl⟩
  obtain ⟨B, hB⟩ : ∃ B, partsE d (t.sub 1) = B := ⟨_, rfl⟩
  rw [hA, hB] at hl ⊢
  have ih0 : ∀ W2, Below W1.heap.size W1 W2 → Calls Tryz.prog 12 #[.agg #[.int .i64 k0, .string s0, .int .i64 vk0, .bool vb0, .int .i64 vn0, .string vs0, .slice none 0 0, .slice none 0 0, .slice kp0 n0 kc0, .slice np0 m0 nc0]] W2 (GivesLP base W2 A) := fun W2 hb2 => by
    have hbb := bw1.trans (hb2.mono bw1.size)
    rw [← hA]
    exact ih (t.sub 0) ⟨k0, s0, vk0, vb0, vn0, vs0, kp0, n0, kc0, np0, m0, nc0⟩ base W2 (p7.since (Since.below hbb)) (Nat.le_trans hb hbb.size) (by rw [hA]; omega)
  have ih1 : ∀ W2, Below W1.heap.size W1 W2 → Calls Tryz.prog 12 #[.agg #[.int .i64 k1, .string s1, .int .i64 vk1, .bool vb1, .int .i64 vn1, .string vs1, .slice none 0 0, .slice none 0 0, .slice kp1 n1 kc1, .slice np1 m1 nc1]] W2 (GivesLP base W2 B) := fun W2 hb2 => by
    have hbb := bw1.trans (hb2.mono bw1.size)
    rw [← hB]
    exact ih (t.sub 1) ⟨k1, s1, vk1, vb1, vn1, vs1, kp1, n1, kc1, np1, m1, nc1⟩ base W2 (p8.since (Since.below hbb)) (Nat.le_trans hb hbb.size) (by rw [hB]; omega)
  have Hi1 := mkHid ih1
  have hs1 : W1.heap.size = W.heap.size + 1 := by rw [← hW1]; simp
  have hgl : g < W.heap.size := p3
  have hkc := p4
  have cx0 := cell_of_row W1 _ 0 _ _ _ r1
  have cx1 := cell_of_row W1 _ 1 _ _ _ r1
  have cx2 := cell_of_row W1 _ 2 _ _ _ r1
  have cx3 := cell_of_row W1 _ 3 _ _ _ r1
  have cx4 := cell_of_row W1 _ 4 _ _ _ r1
  have cx5 := cell_of_row W1 _ 5 _ _ _ r1
  have cx6 := cell_of_row W1 _ 6 _ _ _ r1
  have cx7 := cell_of_row W1 _ 7 _ _ _ r1
  have cx8 := cell_of_row W1 _ 8 _ _ _ r1
  have cx9 := cell_of_row W1 _ 9 _ _ _ r1
  have a0_0 : W1.cell? ⟨g, o, none⟩ = some (.int .i64 k0) := (bw1.cell (p := ⟨g, o, none⟩) p3).trans (p5 0 (by decide))
  have a0_1 : W1.cell? ⟨g, o + 1, none⟩ = some (.string s0) := (bw1.cell (p := ⟨g, o + 1, none⟩) p3).trans (p5 1 (by decide))
  have a0_2 : W1.cell? ⟨g, o + 2, none⟩ = some (.int .i64 vk0) := (bw1.cell (p := ⟨g, o + 2, none⟩) p3).trans (p5 2 (by decide))
  have a0_3 : W1.cell? ⟨g, o + 3, none⟩ = some (.bool vb0) := (bw1.cell (p := ⟨g, o + 3, none⟩) p3).trans (p5 3 (by decide))
  have a0_4 : W1.cell? ⟨g, o + 4, none⟩ = some (.int .i64 vn0) := (bw1.cell (p := ⟨g, o + 4, none⟩) p3).trans (p5 4 (by decide))
  have a0_5 : W1.cell? ⟨g, o + 5, none⟩ = some (.string vs0) := (bw1.cell (p := ⟨g, o + 5, none⟩) p3).trans (p5 5 (by decide))
  have a0_6 : W1.cell? ⟨g, o + 6, none⟩ = some (.slice none 0 0) := (bw1.cell (p := ⟨g, o + 6, none⟩) p3).trans (p5 6 (by decide))
  have a0_7 : W1.cell? ⟨g, o + 7, none⟩ = some (.slice none 0 0) := (bw1.cell (p := ⟨g, o + 7, none⟩) p3).trans (p5 7 (by decide))
  have a0_8 : W1.cell? ⟨g, o + 8, none⟩ = some (.slice kp0 n0 kc0) := (bw1.cell (p := ⟨g, o + 8, none⟩) p3).trans (p5 8 (by decide))
  have a0_9 : W1.cell? ⟨g, o + 9, none⟩ = some (.slice np0 m0 nc0) := (bw1.cell (p := ⟨g, o + 9, none⟩) p3).trans (p5 9 (by decide))
  have a1_0 : W1.cell? ⟨g, o + 10, none⟩ = some (.int .i64 k1) := (bw1.cell (p := ⟨g, o + 10, none⟩) p3).trans (p6 0 (by decide))
  have a1_1 : W1.cell? ⟨g, o + 10 + 1, none⟩ = some (.string s1) := (bw1.cell (p := ⟨g, o + 10 + 1, none⟩) p3).trans (p6 1 (by decide))
  have a1_2 : W1.cell? ⟨g, o + 10 + 2, none⟩ = some (.int .i64 vk1) := (bw1.cell (p := ⟨g, o + 10 + 2, none⟩) p3).trans (p6 2 (by decide))
  have a1_3 : W1.cell? ⟨g, o + 10 + 3, none⟩ = some (.bool vb1) := (bw1.cell (p := ⟨g, o + 10 + 3, none⟩) p3).trans (p6 3 (by decide))
  have a1_4 : W1.cell? ⟨g, o + 10 + 4, none⟩ = some (.int .i64 vn1) := (bw1.cell (p := ⟨g, o + 10 + 4, none⟩) p3).trans (p6 4 (by decide))
  have a1_5 : W1.cell? ⟨g, o + 10 + 5, none⟩ = some (.string vs1) := (bw1.cell (p := ⟨g, o + 10 + 5, none⟩) p3).trans (p6 5 (by decide))
  have a1_6 : W1.cell? ⟨g, o + 10 + 6, none⟩ = some (.slice none 0 0) := (bw1.cell (p := ⟨g, o + 10 + 6, none⟩) p3).trans (p6 6 (by decide))
  have a1_7 : W1.cell? ⟨g, o + 10 + 7, none⟩ = some (.slice none 0 0) := (bw1.cell (p := ⟨g, o + 10 + 7, none⟩) p3).trans (p6 7 (by decide))
  have a1_8 : W1.cell? ⟨g, o + 10 + 8, none⟩ = some (.slice kp1 n1 kc1) := (bw1.cell (p := ⟨g, o + 10 + 8, none⟩) p3).trans (p6 8 (by decide))
  have a1_9 : W1.cell? ⟨g, o + 10 + 9, none⟩ = some (.slice np1 m1 nc1) := (bw1.cell (p := ⟨g, o + 10 + 9, none⟩) p3).trans (p6 9 (by decide))
  have HB : Hid (Below W.heap.size W W1 ∧ base ≤ W.heap.size ∧ A.length + B.length ≤ 100000) := ⟨bw1, hb, hl⟩
  clear hx h1 h2 h7 hW1 r1 bw1 hk hs hn p2 p3 p4 p5 p6 p7 p8 ih ih1 hA hB hl hb
  unfold rowX
  go_enter Tryz.func12, Tryz.ntmps12
  go_wp2_with (first | rw [HW1.out] | fail)
  go_region_law ((first | (go_simp; go_at_call_of 12 s0; refine (ih0 _ (Below.refl _ _).drew).mono ?_; rintro e W2 ⟨u1, rfl, ho2, hb2, hu2, hz2'⟩; have hb2 : Below W1.heap.size W1 W2 := ⟨hb2.os, hb2.tape, hb2.output, hb2.size, hb2.block⟩; have hu2 : ∀ k, u1.ownBlock = some k → W1.heap.size ≤ k := hu2; have c2_8 := (hb2.cell (p := ⟨W.heap.size, 8, none⟩) (by show W.heap.size < W1.heap.size; omega)).trans cx8; have b1_0 := (hb2.cell (p := ⟨g, o + 10, none⟩) (by show g < W1.heap.size; omega)).trans a1_0; have b1_1 := (hb2.cell (p := ⟨g, o + 10 + 1, none⟩) (by show g < W1.heap.size; omega)).trans a1_1; have b1_2 := (hb2.cell (p := ⟨g, o + 10 + 2, none⟩) (by show g < W1.heap.size; omega)).trans a1_2; have b1_3 := (hb2.cell (p := ⟨g, o + 10 + 3, none⟩) (by show g < W1.heap.size; omega)).trans a1_3; have b1_4 := (hb2.cell (p := ⟨g, o + 10 + 4, none⟩) (by show g < W1.heap.size; omega)).trans a1_4; have b1_5 := (hb2.cell (p := ⟨g, o + 10 + 5, none⟩) (by show g < W1.heap.size; omega)).trans a1_5; have b1_6 := (hb2.cell (p := ⟨g, o + 10 + 6, none⟩) (by show g < W1.heap.size; omega)).trans a1_6; have b1_7 := (hb2.cell (p := ⟨g, o + 10 + 7, none⟩) (by show g < W1.heap.size; omega)).trans a1_7; have b1_8 := (hb2.cell (p := ⟨g, o + 10 + 8, none⟩) (by show g < W1.heap.size; omega)).trans a1_8; have b1_9 := (hb2.cell (p := ⟨g, o + 10 + 9, none⟩) (by show g < W1.heap.size; omega)).trans a1_9; have ih1 := Hi1.out W2 hb2; dsimp only) | (go_simp; go_at_call_of 12 s1; refine ih1.mono ?_; rintro e W3 ⟨u2, rfl, ho3, hb3, hu3, hz3⟩; have ho2' := ho2.later eExp hb3 (by have := hb2.size; have := HB.out.2.1; omega); dsimp only) | (refine step_append_ow _ (by rfl) (.tmp 21) (.tmp 26) 26 (by rfl) base 28 i0 _ 10 160 Tryz.underlying26 hi hz0 hz1 hz2 (by rfl) (by decide) eExp u1 u2 A B (by rfl) (by rfl) ho2' ho3 (by have := HB.out.2.2; unfold maxLen; omega) (by have := HB.out.2.2; omega) (by have := hb2.size; have := hb3.size; have := HB.out.2.1; omega) ?_; intro v5 w5 ho5 hgr5 hat5; simp only [Act.put])))
  all_goals
    go_wp2
    go_ret
    obtain ⟨q1, q2, q3⟩ := lp_end HB.out.1 hb2 hu2 hb3 hgr5 hat5 (by omega)
    exact ⟨v5, rfl, ho5, q1, q2, q3⟩
set_option maxRecDepth 100000 in
theorem lparts_any : ∀ d, LpaC d
  | 0 => fun _ _ _ _ hx _ _ => hx.elim
  | d + 1 => fun t R base W hx hb hl => by
    unfold partsE at hl ⊢
    by_cases hk : (t []).k = 0
    · rw [if_pos hk]
      exact lparts_none hx hk
    · rw [if_neg hk] at hl ⊢
      by_cases h : (t []).k = 6 ∧ (t []).s.data.toList = [65, 78, 68] ∧ (t []).n = 2
      · rw [if_pos h, List.length_append] at hl
        rw [if_pos h]
        exact lparts_and (lparts_any d) hx hb hl h.1 h.2.1 h.2.2
      · rw [if_neg h]
        exact lparts_one hx hb hk h
end Go.Proofs.YtfemippjaokcmaaGreatDoor
namespace Go.Proofs.YtfemippjaokcmaaGreatDoor.V
open Go.RowKit
def slim : Tr → Prop
  | .no => True
  | .mk _ _ _ _ m f _ _ => m ≤ 33 ∧ ∀ i, i < m → slim (f i)
def RefC (t : Tr) : Prop := ∀ (B : Nat) (w : World) (x : Ad), Lies B w t x → B ≤ w.heap.size →
  Calls Tryz.prog 17 #[t.val x] w fun e w' => ∃ A, e = .returned (t.val A) ∧ LiesS (fun k => k < B ∨ (w.heap.size ≤ k ∧ k < w'.heap.size)) w' t A ∧ Below w.heap.size w w'
set_option maxRecDepth 100000 in
set_option maxHeartbeats 4000000 in
theorem ref_mk {k : Int} {b : Bool} {n : Int} {s : ByteArray} {m : Nat} {f : Nat → Tr} {q : Nat} {g : Nat → ByteArray} (hm33 : m ≤ 33) (ih : ∀ i, i < m → RefC (f i)) : RefC (.mk k b n s m f q g) := by
  intro B w x hL hB
  obtain ⟨A, hp, hr⟩ := hL.part
  have hN := hL.lims
  replace hN : (-9223372036854775808 ≤ k ∧ k < 9223372036854775808) ∧ (-9223372036854775808 ≤ n ∧ n < 9223372036854775808) ∧ s.size ≤ maxLen ∧ (m ≤ x.pc ∧ x.pc ≤ maxLen) ∧ Names B w q g x.na x.nc := hN
  obtain ⟨pa, pc, na, nc⟩ := x
  have hV : (Tr.mk k b n s m f q g).val ⟨pa, pc, na, nc⟩ = .agg #[.int .i64 k, .bool b, .int .i64 n, .string s, .slice pa m pc, .slice na q nc] := rfl
  rw [hV]
  clear hV
  have HI : Hid (∀ i, i < m → RefC (f i)) := ih
  have HP : Hid (0 < m → ∃ b o, pa = some ⟨b, o, none⟩ ∧ b < B ∧ ∀ i, i < m → At6 w b (o + i * 6) (f i) (A i)) := hp
  have HR : Hid (∀ i, i < m → Lies B w (f i) (A i)) := hr
  have HN : Hid ((-9223372036854775808 ≤ k ∧ k < 9223372036854775808) ∧ (-9223372036854775808 ≤ n ∧ n < 9223372036854775808) ∧ s.size ≤ maxLen ∧ (m ≤ pc ∧ pc ≤ maxLen) ∧ Names B w q g na nc) := hN
  clear ih hp hr hN
  obtain ⟨i0, hi, hz0, hz1, hz2⟩ := info_parts info33
  go_enter Tryz.func17, Tryz.ntmps17
  go_wp2_with fail
  obtain ⟨W2, hW2⟩ : ∃ W2, (w.alloc (.cells #[.int .i64 k, .bool b, .int .i64 n, .string s, .slice pa m pc, .slice na q nc] 25)).alloc (.cells #[.int .i64 0, .bool false, .int .i64 0, .string ⟨#[]⟩, .slice none 0 0, .slice none 0 0] 46) = W2 := ⟨_, rfl⟩
  have hb2 : Below w.heap.size w W2 := by rw [← hW2]; exact ((Below.refl _ w).alloc (Nat.le_refl _) _).alloc (by simp) _
  have hs2 : W2.heap.size = w.heap.size + 1 + 1 := by rw [← hW2]; simp
  have r3 : W2.heap[w.heap.size]? = some (.cells #[.int .i64 k, .bool b, .int .i64 n, .string s, .slice pa m pc, .slice na q nc] 25 (0, 0)) := by
    rw [← hW2, Below.heap_alloc _ _ _ (by simp)]; exact heap_alloc_new _ _
  have r6 : W2.heap[w.heap.size + 1]? = some (.cells #[.int .i64 0, .bool false, .int .i64 0, .string ⟨#[]⟩, .slice none 0 0, .slice none 0 0] 46 (0, 0)) := by
    rw [← hW2]; have := heap_alloc_new (w.alloc (.cells #[.int .i64 k, .bool b, .int .i64 n, .string s, .slice pa m pc, .slice na q nc] 25)) (.cells #[.int .i64 0, .bool false, .int .i64 0, .string ⟨#[]⟩, .slice none 0 0, .slice none 0 0] 46); simpa using this
  have r7 : (W2.alloc (.cells #[.int .i64 k, .bool b, .int .i64 n, .string s, .slice none 0 0, .slice na q nc] 46)).heap[w.heap.size + 1 + 1]? = some (.cells #[.int .i64 k, .bool b, .int .i64 n, .string s, .slice none 0 0, .slice na q nc] 46 (0, 0)) := by rw [← hs2]; exact heap_alloc_new _ _
  have hb7 : Below (w.heap.size + 1 + 1) W2 (W2.alloc (.cells #[.int .i64 k, .bool b, .int .i64 n, .string s, .slice none 0 0, .slice na q nc] 46)) := (Below.refl _ _).alloc (by omega) _
  rw [hW2]
  clear hW2
  go_loopw [4] (fun c4 wr => ∃ (i : Nat) (v : Value) (A' : Nat → Ad), i ≤ m ∧ c4 = .int .i64 (i : Int) ∧ wr.heap[w.heap.size + 1 + 1]? = some (.cells #[.int .i64 k, .bool b, .int .i64 n, .string s, v, .slice na q nc] 46 (0, 0)) ∧ Below (w.heap.size + 1 + 1) W2 wr ∧ Mine 46 (fun k => k < B) (w.heap.size + 1 + 1 + 1) wr v i f A') (fun c4 _ => m - (intOf c4).toNat)
  case atStart => exact ⟨0, .slice none 0 0, A, by omega, rfl, r7, hb7, Mine.start _ _ _ _ _ _⟩
  case round =>
    clear r7 hb7
    obtain ⟨i, v, A', hi', rfl, hrow, hbw, hmine⟩ := hrel
    have hlt7 := lt_of_row hrow
    have g4 := cell_of_row wr _ 4 _ _ _ ((hbw.block w.heap.size (by omega)).trans r3)
    by_cases hiN : i < m
    · have him' : (i : Int) < (m : Int) := by omega
      have hi33 : i < 33 := by omega
      obtain ⟨pb, po, rfl, hpb, hat⟩ := HP.out (by omega)
      have hBw : Below B w wr := (hb2.mono hB).trans (hbw.mono (by omega))
      have h6a := (hat i (by omega)).later hpb hBw
      have d0 := h6a.c0
      have d1 := h6a.c1
      have d2 := h6a.c2
      have d3 := h6a.c3
      have d4 := h6a.c4
      have d5 := h6a.c5
      have hLi := (HR.out i (by omega)).later hBw
      have e4 := cell_of_row wr _ 4 _ _ _ hrow
      have f4 := frozen_of_row wr _ 4 _ _ hrow
      clear hat h6a
      have hszr := hbw.size
      have hLd : Lies B wr.drew (f i) (A i) := LiesS.kept (w := wr) (w' := wr.drew) (fun _ _ => rfl) hLi
      obtain ⟨t, ht⟩ : ∃ t, f i = t := ⟨_, rfl⟩
      have hcall : Calls Tryz.prog 17 #[.agg #[.int .i64 (f i).k, .bool (f i).b, .int .i64 (f i).n, .string (f i).s, .slice (A i).pa (f i).m (A i).pc, .slice (A i).na (f i).q (A i).nc]] wr.drew fun e w' => ∃ A1 : Ad, e = .returned (.agg #[.int .i64 t.k, .bool t.b, .int .i64 t.n, .string t.s, .slice A1.pa t.m A1.pc, .slice A1.na t.q A1.nc]) ∧ LiesS (fun k => k < B ∨ (wr.heap.size ≤ k ∧ k < w'.heap.size)) w' t A1 ∧ Below wr.heap.size wr w' := by
        rw [← ht]
        refine (HI.out i hiN B wr.drew (A i) hLd (by show B ≤ wr.heap.size; omega)).mono ?_
        rintro e1 w' ⟨A1, h1, h2, h3⟩
        exact ⟨A1, h1, h2, (Below.refl _ wr).drew.trans h3⟩
      have HTT : Hid (f i = t) := ht
      clear ht
      go_wp2_with fail
      go_region_law ((first | (go_simp; go_at_call 17; refine hcall.mono ?_; rintro e w1 ⟨A1, rfl, hL1, hb1⟩; have e41 := (hb1.cell (p := ⟨w.heap.size + 1 + 1, 4, none⟩) hlt7).trans e4; have e4a : ∀ o, (w1.alloc o).cell? ⟨w.heap.size + 1 + 1, 4, none⟩ = some v := fun o => cell_kept e41 (Below.heap_alloc w1 o _ (block_lt e41)); have hrow1 := (hb1.block _ hlt7).trans hrow; have hm1 := hmine.kept (w' := w1) hb1.size (fun k hk => hb1.block k (by omega)) (fun k _ hk => hb1.block k hk); dsimp only) | (refine step_append_lies _ (by rfl) (.tmp 24) (.tmp 31) 44 (by rfl) (w.heap.size + 1 + 1 + 1) 46 i0 _ 6 88 Tryz.underlying44 hi hz0 hz1 hz2 (by rfl) (by decide) v i _ (by rfl) (hm1.own.alloc _) ⟨w1.heap.size, 0, none⟩ 1 1 (t.cs A1) (by rfl) (by rfl) (World.news_of_block (heap_alloc_new w1 _)) (cs_one t A1) (by decide) (by unfold maxLen; omega) (by omega) (by have := hb1.size; simp; omega) (w1.heap.size + 1) (by simp) ?_; intro g1 cap1 w2 hown2 hgr2 hat2 hlt2; have e42 := far_cell hgr2 hm1.block_ge e41 (by show w.heap.size + 1 + 1 < _; omega); have hrow2 := far_row hgr2 hm1.block_ge hrow1 (show w.heap.size + 1 + 1 < _ by omega); have f42 := frozen_of_row w2 _ 4 _ _ hrow2)))
      all_goals
        have ht := HTT.out
        have hmA := hm1.kept (w' := w1.alloc (.cells #[.int .i64 t.k, .bool t.b, .int .i64 t.n, .string t.s, .slice A1.pa t.m A1.pc, .slice A1.na t.q A1.nc] 46)) (by simp) (fun k hk => Below.heap_alloc w1 _ k (by have := hb1.size; omega)) (fun k _ hk => Below.heap_alloc w1 _ k hk)
        have hbz := ((hbw.trans (hb1.mono (by omega))).alloc (by have := hb1.size; omega) (.cells #[.int .i64 t.k, .bool t.b, .int .i64 t.n, .string t.s, .slice A1.pa t.m A1.pc, .slice A1.na t.q A1.nc] 46)).grown hgr2 (by have := hb1.size; simp; omega) (fun k hk => by have := hm1.block_ge k hk; omega)
        have hT1 := lies_alloc hL1 (fun k hk => by have := hb1.size; omega) (.cells #[.int .i64 t.k, .bool t.b, .int .i64 t.n, .string t.s, .slice A1.pa t.m A1.pc, .slice A1.na t.q A1.nc] 46)
        have hstep := Mine.step (wr := wr) (a := A1) hmA (by have := hb1.size; simp; omega) (by omega) hmine.block_lt (fun k hk => by omega) (by rw [ht]; exact hT1.up (fun k hk => by rcases hk with hk | hk; exact Or.inl hk; exact Or.inr ⟨hk.1, by simp; omega⟩)) (by rw [ht]; exact hown2) hgr2 hat2 (by simp)
        have hset := hstep.kept (w' := w2.setCell ⟨w.heap.size + 1 + 1, 4, none⟩ (.slice (some ⟨g1, 0, none⟩) (i + 1) cap1)) (by simp) (fun k hk => Below.heap_setCell _ _ _ k (by show k ≠ w.heap.size + 1 + 1; omega)) (fun k hk _ => Below.heap_setCell _ _ _ k (by show k ≠ w.heap.size + 1 + 1; omega))
        have hrow3 := row_setCell (k := 4) hrow2 (.slice (some ⟨g1, 0, none⟩) (i + 1) cap1)
        have hbz3 := hbz.setCell (p := ⟨w.heap.size + 1 + 1, 4, none⟩) (Nat.le_refl _) (.slice (some ⟨g1, 0, none⟩) (i + 1) cap1)
        clear ht hmA hbz hT1 hstep hown2 hgr2 hm1 hL1 hb1
        go_wp2
        go_roundw
        case rel => exact ⟨i + 1, _, _, by omega, by go_num, hrow3, hbz3, hset⟩
        case measure => simp [intOf]; omega
    · obtain rfl : m = i := by omega
      have hr6 := (hbw.block (w.heap.size + 1) (by omega)).trans r6
      have a0 := cell_of_row wr _ 0 _ _ _ hr6
      have a1 := cell_of_row wr _ 1 _ _ _ hr6
      have a2 := cell_of_row wr _ 2 _ _ _ hr6
      have a3 := cell_of_row wr _ 3 _ _ _ hr6
      have a4 := cell_of_row wr _ 4 _ _ _ hr6
      have a5 := cell_of_row wr _ 5 _ _ _ hr6
      have b0 := frozen_of_row wr _ 0 _ _ hr6
      have b1 := frozen_of_row wr _ 1 _ _ hr6
      have b2 := frozen_of_row wr _ 2 _ _ hr6
      have b3 := frozen_of_row wr _ 3 _ _ hr6
      have b4 := frozen_of_row wr _ 4 _ _ hr6
      have b5 := frozen_of_row wr _ 5 _ _ hr6
      have e0 := cell_of_row wr _ 0 _ _ _ hrow
      have e1 := cell_of_row wr _ 1 _ _ _ hrow
      have e2 := cell_of_row wr _ 2 _ _ _ hrow
      have e3 := cell_of_row wr _ 3 _ _ _ hrow
      have e4 := cell_of_row wr _ 4 _ _ _ hrow
      have e5 := cell_of_row wr _ 5 _ _ _ hrow
      obtain ⟨pa', pc', rfl, hpc, hpp, hll⟩ := hmine.done (S' := fun k => k < B ∨ (w.heap.size + 1 + 1 + 1 ≤ k ∧ k < wr.heap.size)) (fun k hk => Or.inl hk) (fun k h1 h2 => Or.inr ⟨h1, h2⟩)
      clear hmine
      go_wp2
      change bodyPost _ _ _ _ _ (set6 wr (w.heap.size + 1) (.int .i64 k) (.bool b) (.int .i64 n) (.string s) (.slice pa' m pc') (.slice na q nc))
      have hro := set6_row hr6 (.int .i64 k) (.bool b) (.int .i64 n) (.string s) (.slice pa' m pc') (.slice na q nc)
      have hkeep : ∀ k1, k1 ≠ w.heap.size + 1 → (set6 wr (w.heap.size + 1) (.int .i64 k) (.bool b) (.int .i64 n) (.string s) (.slice pa' m pc') (.slice na q nc)).heap[k1]? = wr.heap[k1]? := fun k1 h1 => set6_block _ _ _ _ _ _ _ _ k1 h1
      have hsz := set6_size wr (w.heap.size + 1) (.int .i64 k) (.bool b) (.int .i64 n) (.string s) (.slice pa' m pc') (.slice na q nc)
      have hbf := set6_below (hb2.trans (hbw.mono (by omega))) (w.heap.size + 1) (by omega) (.int .i64 k) (.bool b) (.int .i64 n) (.string s) (.slice pa' m pc') (.slice na q nc)
      obtain ⟨wf, hwf⟩ : ∃ wf, set6 wr (w.heap.size + 1) (.int .i64 k) (.bool b) (.int .i64 n) (.string s) (.slice pa' m pc') (.slice na q nc) = wf := ⟨_, rfl⟩
      rw [hwf] at hro hkeep hsz hbf ⊢
      clear hwf
      have o0 := cell_of_row wf _ 0 _ _ _ hro
      have o1 := cell_of_row wf _ 1 _ _ _ hro
      have o2 := cell_of_row wf _ 2 _ _ _ hro
      have o3 := cell_of_row wf _ 3 _ _ _ hro
      have o4 := cell_of_row wf _ 4 _ _ _ hro
      have o5 := cell_of_row wf _ 5 _ _ _ hro
      refine bodyPost_ret (v := .agg #[.int .i64 k, .bool b, .int .i64 n, .string s, .slice pa' m pc', .slice na q nc]) (by simp [results, Tryz.results17, go_sem, o0, o1, o2, o3, o4, o5]) rfl ⟨⟨pa', pc', na, nc⟩, rfl, ?_, hbf⟩
      have hnk : NamesS (fun k => k < B ∨ (w.heap.size + 1 + 1 + 1 ≤ k ∧ k < wr.heap.size)) wr q g na nc := NamesS.up (fun k hk => Or.inl hk) (Names.later HN.out.2.2.2.2 ((hb2.mono hB).trans (hbw.mono (by omega))))
      have hfin : LiesS (fun k => k < B ∨ (w.heap.size + 1 + 1 + 1 ≤ k ∧ k < wr.heap.size)) wr (.mk k b n s m f q g) ⟨pa', pc', na, nc⟩ := .mk A' HN.out.1 HN.out.2.1 HN.out.2.2.1 hpc hpp hll hnk
      refine (hfin.kept (fun k1 hk => hkeep k1 (by omega))).up (fun k1 hk => ?_)
      rcases hk with hk | hk
      · exact Or.inl hk
      · exact Or.inr ⟨by omega, by omega⟩
set_option maxRecDepth 100000 in
theorem ref_all (t : Tr) (h : slim t) : RefC t := by
  induction t with
  | no => exact fun _ _ _ hL => hL.no.elim
  | mk k b n s m f q g ih => exact ref_mk h.1 (fun i hi => ih i (h.2 i hi))
end Go.Proofs.YtfemippjaokcmaaGreatDoor.V
namespace Go.Proofs.YtfemippjaokcmaaGreatDoor
open Go.RowKit Go.Shelf
attribute [local go_sem] Oper.semAt_some fw0 fw1 fw2
theorem cells_size (w : World) (s : ByteArray) : s.size ≤ (Lib.bytesCells w 5 s).size := by
  unfold Lib.bytesCells
  rw [Array.size_append, Array.size_map]
  exact Nat.le_add_right _ _
/- What []byte(s) leaves. -/
structure BtW (w wb : World) (s : ByteArray) (b C : Nat) : Prop where
  bel : Below w.heap.size w wb
  old : w.heap.size ≤ b
  cap : s.size ≤ C
  byt : ∀ j, j < s.size → wb.cell? ⟨b, j, none⟩ = some (.int .u8 (s.data.toList.getD j 0).toNat)
  frz : ∀ j, j < s.size → wb.frozen? ⟨b, j, none⟩ = false
theorem bytes_made (w : World) (s : ByteArray) : BtW w (Lib.bytesWorld w 5 s) s w.heap.size (Lib.bytesCells w 5 s).size := by
  refine ⟨Joins.below_bytesWorld _ _ _ _ (Nat.le_refl _), Nat.le_refl _, ?_, fun j hj => Lib.bytesWorld_cell w 5 s j hj, fun j hj => ?_⟩
  · exact cells_size w s
  · have h := Lib.bytesWorld_at_new w 5 s
    have hs := cells_size w s
    obtain ⟨z, hz⟩ : ∃ z, (Lib.bytesCells w 5 s).size = z := ⟨_, rfl⟩
    rw [hz] at h hs
    simp only [World.frozen?, h]
    simp
    omega
theorem getD_byte (s : ByteArray) (j : Nat) (h : j < s.size) : s.data.toList.getD j 0 = s[j] := by
  have hl : j < s.data.toList.length := by simpa using h
  rw [List.getD_eq_getElem?_getD, List.getElem?_eq_getElem hl]
  rfl
set_option maxRecDepth 100000 in
set_option maxHeartbeats 4000000 in
theorem plus_any (s : ByteArray) (hs : s.size ≤ 100000) (w : World) : Calls Tryz.prog 23 #[.string s] w fun e w' => e = .returned (.string (V.nextB s)) ∧ Below w.heap.size w w' := by
  obtain ⟨X, hX⟩ : ∃ X, V.nextB s = X := ⟨_, rfl⟩
  rw [hX]
  have HX := mkHid hX
  clear hX
  have hrun := Lib.run_convert_string_bytes (P := Tryz.prog) w 9 84 5 s Tryz.underlying9 Tryz.underlying84 Tryz.underlying5
  obtain ⟨wb, hwb⟩ : ∃ wb, Lib.bytesWorld w 5 s = wb := ⟨_, rfl⟩
  have hB := bytes_made w s
  have hG : s.size ≤ grownCap w s.size 0 5 := grownCap_ge _ _ _ _
  obtain ⟨G, hGe⟩ : ∃ G, grownCap w s.size 0 5 = G := ⟨_, rfl⟩
  rw [hwb] at hrun hB
  rw [hGe] at hrun hG
  obtain ⟨bk, hbk⟩ : ∃ bk, w.heap.size = bk := ⟨_, rfl⟩
  have HBK := mkHid hbk
  rw [hbk] at hrun hB
  obtain ⟨C, hC⟩ : ∃ C, (Lib.bytesCells w 5 s).size = C := ⟨_, rfl⟩
  rw [hC] at hB
  have HB := mkHid hB
  clear hwb hGe hB hbk hC
  go_enter Tryz.func23, Tryz.ntmps23
  go_wp2_with fail
  go_loopw [3] (fun c3 wr => ∃ k : Nat, k ≤ s.size ∧ c3 = .slice (some ⟨bk, 0, none⟩) k G ∧ Hid (V.nextF (s.data.toList.take k) = V.nextF s.data.toList) ∧ wr = wb) (fun c3 _ => match c3 with | .slice _ n _ => n | _ => 0)
  case atStart =>
    refine ⟨s.size, Nat.le_refl _, rfl, ?_, rfl⟩
    have hh : V.nextF (s.data.toList.take s.size) = V.nextF s.data.toList := by rw [List.take_of_length_le (by simp)]
    exact hh
  case round =>
    obtain ⟨k, hk, rfl, hn, rfl⟩ := hrel
    rcases Nat.eq_zero_or_pos k with rfl | hk0
    · have hx : V.nextB s = ⟨#[]⟩ := by unfold V.nextB V.nextL; rw [← hn.out]; rfl
      obtain rfl := hx.symm.trans HX.out
      clear hx hrun
      go_wp2
      go_ret
      exact ⟨rfl, HB.out.bel⟩
    · obtain ⟨j, rfl⟩ : ∃ j, k = j + 1 := ⟨k - 1, by omega⟩
      have hjs : j < s.size := by omega
      have hc := HB.out.byt j hjs
      rw [getD_byte s j hjs] at hc
      have hpos : (0 : Int) < ((j + 1 : Nat) : Int) := by omega
      have hm : IntKind.i64.wrap (((j + 1 : Nat) : Int) - 1) = (j : Int) := by rw [IntKind.wrap_i64]; omega
      have hzr : ¬ ((j + 1 : Nat) : Int) = 0 := by omega
      have hjl : (j : Int) < ((j + 1 : Nat) : Int) := by omega
      have hjG : (j : Int) ≤ (G : Int) := by omega
      obtain ⟨k1, hk1⟩ : ∃ k1 : Nat, j + 1 = k1 := ⟨_, rfl⟩
      have HK := mkHid hk1
      rw [hk1] at hpos hm hzr hjl ⊢
      have hn2 : Hid (V.nextF (s.data.toList.take (j + 1)) = V.nextF s.data.toList) := hn
      clear hn hk1 hk hk0 hrun
      by_cases hff : s[j].toNat = 255
      · have hff' : (s[j].toNat : Int) = 255 := by omega
        have hst : Hid (V.nextF (s.data.toList.take j) = V.nextF s.data.toList) := by
          have e : s[j] = 255 := V.u8_eq.2 hff
          have := hn2.out
          rw [V.take_up s j hjs, e, V.nextF_ff] at this
          exact this
        go_wp2
        go_roundw
        case rel => exact ⟨j, by omega, rfl, hst, by first | rfl | trivial⟩
        case measure => have := HK.out; simp; omega
      · have hff' : ¬ (s[j].toNat : Int) = 255 := by omega
        have hne : s[j] ≠ 255 := fun e => hff (V.u8_eq.1 e)
        have hx : V.nextB s = ⟨(s.data.toList.take j ++ [s[j] + 1]).toArray⟩ := by
          unfold V.nextB V.nextL
          rw [← hn2.out, V.take_up s j hjs, V.nextF_up _ _ hne]
          rfl
        have HY := hx.symm.trans HX.out
        have hfz := HB.out.frz j hjs
        obtain ⟨v, hv⟩ : ∃ v : Int, IntKind.u8.wrap ((s[j].toNat : Int) + 1) = v := ⟨_, rfl⟩
        have hvc : v = ((s[j] + 1).toNat : Int) := by
          rw [← hv, IntKind.wrap_u8', UInt8.toNat_add]
          have h3 : (1 : UInt8).toNat = 1 := rfl
          rw [h3]
          omega
        have hcv : (convert 84 9 (.slice (some ⟨bk, 0, none⟩) k1 G)).run Tryz.prog (wr.setCell ⟨bk, j, none⟩ (.int .u8 v)) = .ok (.string X) (wr.setCell ⟨bk, j, none⟩ (.int .u8 v)) := by
          have hl : (s.data.toList.take j ++ [s[j] + 1]).length = k1 := by
            rw [List.length_append, List.length_take, ← HK.out]
            have : s.data.toList.length = s.size := by simp
            simp; omega
          have := run_convert_bytes_back (P := Tryz.prog) (wr.setCell ⟨bk, j, none⟩ (.int .u8 v)) 84 9 5 ⟨bk, 0, none⟩ G (s.data.toList.take j ++ [s[j] + 1]) Tryz.underlying84 Tryz.underlying5 Tryz.underlying9 (fun i hi => ?_)
          · rw [hl] at this
            rw [this, ← HY]
          · rw [show (⟨bk, 0, none⟩ : Addr).add i = ⟨bk, i, none⟩ by unfold Addr.add; split <;> simp_all]
            have hil : i < j + 1 := by rw [hl, ← HK.out] at hi; exact hi
            by_cases hij : i = j
            · subst hij
              have hlt : (s.data.toList.take i).length = i := by
                rw [List.length_take]
                have : s.data.toList.length = s.size := by simp
                omega
              have e : (s.data.toList.take i ++ [s[i] + 1])[i] = s[i] + 1 := by
                rw [List.getElem_append_right (by omega)]
                simp
              rw [World.cell?_setCell_same _ _ _ hc, e, hvc]
            · have hij2 : i < j := by omega
              rw [World.cell?_setCell_other _ _ _ _ (fun e => hij (by injection e with _ e2 _; exact e2.symm)), HB.out.byt i (by omega), getD_byte s i (by omega)]
              have hlt : (s.data.toList.take j).length = j := by
                rw [List.length_take]
                have : s.data.toList.length = s.size := by simp
                omega
              have e : (s.data.toList.take j ++ [s[j] + 1])[i] = s[i] := by
                rw [List.getElem_append_left (by omega), List.getElem_take]
                rfl
              rw [e]
        have HBF : Hid (Below w.heap.size w (wr.setCell ⟨bk, j, none⟩ (.int .u8 v))) := by
          have := HB.out
          have e := HBK.out
          exact HB.out.bel.setCell (p := ⟨bk, j, none⟩) (by show w.heap.size ≤ bk; omega) _
        clear hx HY hvc
        go_wp2
        go_ret
        exact ⟨rfl, HBF.out⟩
end Go.Proofs.YtfemippjaokcmaaGreatDoor
namespace Go.Proofs.YtfemippjaokcmaaGreatDoor
open Go.RowKit Go.Shelf
structure KeyF (r : S7) : Prop where
  so : V.soundT (V.leafT r.vk r.vb r.vn r.vs) 1 = 0
  sm : V.small (V.leafT r.vk r.vb r.vn r.vs)
  sl : V.slim (V.leafT r.vk r.vb r.vn r.vs)
  kb : -9223372036854775808 ≤ r.vk ∧ r.vk < 9223372036854775808
  nb : -9223372036854775808 ≤ r.vn ∧ r.vn < 9223372036854775808
  sb : r.vs.size ≤ 4096
  len : (V.keyT (V.leafT r.vk r.vb r.vn r.vs)).length ≤ 9000
theorem leaf_sound {k : Nat} {b : Bool} {n : Int} {s : ByteArray} (hk : k ≤ 4) (h : V.formedB (k : Int) b n s 0 0 = true) : V.soundT (V.leafT (k : Int) b n s) 1 = 0 := by
  unfold V.leafT V.soundT
  rw [if_neg (by decide), if_neg (by rw [h]; decide), if_neg (by decide), if_neg (fun hh => by have := hh.1; omega)]
  rfl
theorem lsC_key {sg : ByteArray} {f l : En} (h : EnL l) (hok : (lsC sg f l).ok = true) : KeyF (lsC sg f l) := by
  unfold lsC at hok ⊢
  split at hok
  · next hd =>
    rw [if_pos hd]
    simp only [Bool.and_eq_true, beq_iff_eq] at hok
    obtain ⟨h1, h2, h3, h4, h5⟩ := h.lit (by omega)
    exact ⟨leaf_sound h1 h5, ⟨h2, fun i hi => absurd hi (Nat.not_lt_zero _)⟩, ⟨Nat.zero_le _, fun i hi => absurd hi (Nat.not_lt_zero _)⟩, ⟨by show -9223372036854775808 ≤ ((l.vk : Nat) : Int); omega, by show ((l.vk : Nat) : Int) < 9223372036854775808; omega⟩, ⟨by show -9223372036854775808 ≤ l.vn; omega, h4⟩, h2, litK_len ⟨h1, h2⟩⟩
  · exact absurd hok (by decide)
theorem lsE_key {t : Et} (h : AllE t) (hok : (lsE t).ok = true) : KeyF (lsE t) := by
  unfold lsE lsF at hok ⊢
  split at hok
  · next h1 =>
    rw [if_pos h1]
    split at hok
    · next h2 =>
      rw [if_pos h2]
      exact lsC_key (h.sub 0 []) hok
    · next h2 =>
      rw [if_neg h2]
      exact lsC_key (h.sub 1 []) hok
  · exact absurd hok (by decide)
def RfU (T : V.Tr) (v : Value) (W : World) : Prop := ∃ A, v = T.val A ∧ V.Lies W.heap.size W T A
theorem ref_u {T : V.Tr} (hs : V.slim T) {A : V.Ad} {W : World} (hL : V.Lies W.heap.size W T A) : Calls Tryz.prog 17 #[.agg #[.int .i64 T.k, .bool T.b, .int .i64 T.n, .string T.s, .slice A.pa T.m A.pc, .slice A.na T.q A.nc]] W fun e w' => (∃ v, e = .returned v ∧ RfU T v w') ∧ Below W.heap.size W w' := by
  refine (V.ref_all T hs W.heap.size W A hL (Nat.le_refl _)).mono ?_
  rintro e w' ⟨B, rfl, hl, hb2⟩
  exact ⟨⟨_, rfl, B, rfl, hl.up (fun k hk => by have := hb2.size; omega)⟩, hb2⟩
theorem law_ref {r : S7} (h : KeyF r) (W : World) : Calls Tryz.prog 17 #[.agg #[.int .i64 r.vk, .bool r.vb, .int .i64 r.vn, .string r.vs, .slice none 0 0, .slice none 0 0]] W fun e w' => (∃ v, e = .returned v ∧ RfU (V.leafT r.vk r.vb r.vn r.vs) v w') ∧ Below W.heap.size W w' :=
  ref_u (T := (V.leafT r.vk r.vb r.vn r.vs)) (A := ⟨none, 0, none, 0⟩) h.sl (V.lies_leaf h.kb h.nb (Nat.le_trans h.sb (by decide)))
theorem law_key {r : S7} (h : KeyF r) {v : Value} {W : World} (hv : RfU (V.leafT r.vk r.vb r.vn r.vs) v W) : Calls Tryz.prog 18 #[v] W fun e w' => e = .returned (.string (keyS r)) ∧ Below W.heap.size W w' := by
  obtain ⟨A, rfl, hL⟩ := hv
  exact V.dkey_all _ 1 h.so h.sm W.heap.size W A hL (Nat.le_refl _) (Nat.le_trans h.len (by decide))
theorem keyS_size {r : S7} (h : KeyF r) : (keyS r).size ≤ 100000 := Nat.le_trans (show (keyS r).size ≤ 9000 from h.len) (by decide)
theorem lsE_ok {t : Et} (h : AllE t) (hok : (lsE t).ok = true) : noDot (lsE t).f ∧ (lsE t).f.toList ≠ [] := lsE_field (fun i _ hk => (h.sub i []).fld hk) hok
/- The loop's memory. -/
structure LcW (w wr : World) (b z : Nat) (u2 : Value) (T : List Et) (P : P3) : Prop where
  bel : Below w.heap.size w wr
  zr : wr.heap[z]? = some (.cells #[.string ⟨#[]⟩, .string ⟨#[]⟩, .string ⟨#[]⟩] 35 (0, 0))
  br : wr.heap[b]? = some (.cells #[.string P.1, .string P.2.1, .string P.2.2] 35 (0, 0))
  ow : Ow EExp 28 10 w.heap.size wr u2 T
  ob : ∀ k, u2.ownBlock = some k → b < k
  zb : z < b
  wz : w.heap.size ≤ z
theorem LcW.later {w wr W : World} {b z : Nat} {u2 : Value} {T : List Et} {P : P3} (h : LcW w wr b z u2 T P) (hb : Below wr.heap.size wr W) : LcW w W b z u2 T P :=
  ⟨h.bel.trans (hb.mono h.bel.size), Below.row hb h.zr, Below.row hb h.br, h.ow.later eExp hb h.bel.size, h.ob, h.zb, h.wz⟩
theorem LcW.set {w wr W : World} {b z : Nat} {u2 : Value} {T : List Et} {P : P3} (h : LcW w wr b z u2 T P) (hb : Below b wr W) (ho : ∀ k, b < k → W.heap[k]? = wr.heap[k]?) (Q : P3) (hr : W.heap[b]? = some (.cells #[.string Q.1, .string Q.2.1, .string Q.2.2] 35 (0, 0))) : LcW w W b z u2 T Q := by
  have hz := h.zb
  have hw := h.wz
  refine ⟨h.bel.trans (hb.mono (by omega)), (hb.block z hz).trans h.zr, hr, ?_, h.ob, hz, hw⟩
  obtain ⟨L, q1, q2⟩ := h.ow.own
  refine ⟨L, ⟨q1.1, ?_⟩, q2.since eExp ⟨hb.size, fun k hk _ => hb.block k (by omega)⟩⟩
  rcases q1.2 with hn | ⟨g, cap, cur, hv, hg, hr, rest⟩
  · exact .inl hn
  · exact .inr ⟨g, cap, cur, hv, hg, (ho g (h.ob g (by rw [hv]; rfl))).trans hr, rest⟩
theorem LcW.set1 {w wr : World} {b z : Nat} {u2 : Value} {T : List Et} {f lo hi : ByteArray} (h : LcW w wr b z u2 T (f, lo, hi)) (x : ByteArray) : LcW w (wr.setCell ⟨b, 0, none⟩ (.string x)) b z u2 T (x, lo, hi) :=
  h.set ((Below.refl b wr).setCell (p := ⟨b, 0, none⟩) (Nat.le_refl b) _) (fun k hk => Below.heap_setCell _ _ _ k (by show k ≠ b; omega)) (x, lo, hi) (row_setCell (k := 0) h.br (.string x))
theorem LcW.set2 {w wr : World} {b z : Nat} {u2 : Value} {T : List Et} {f lo hi : ByteArray} (h : LcW w wr b z u2 T (f, lo, hi)) (x : ByteArray) : LcW w (wr.setCell ⟨b, 1, none⟩ (.string x)) b z u2 T (f, x, hi) :=
  h.set ((Below.refl b wr).setCell (p := ⟨b, 1, none⟩) (Nat.le_refl b) _) (fun k hk => Below.heap_setCell _ _ _ k (by show k ≠ b; omega)) (f, x, hi) (row_setCell (k := 1) h.br (.string x))
theorem LcW.set3 {w wr : World} {b z : Nat} {u2 : Value} {T : List Et} {f lo hi : ByteArray} (h : LcW w wr b z u2 T (f, lo, hi)) (x : ByteArray) : LcW w (wr.setCell ⟨b, 2, none⟩ (.string x)) b z u2 T (f, lo, x) :=
  h.set ((Below.refl b wr).setCell (p := ⟨b, 2, none⟩) (Nat.le_refl b) _) (fun k hk => Below.heap_setCell _ _ _ k (by show k ≠ b; omega)) (f, lo, x) (row_setCell (k := 2) h.br (.string x))
end Go.Proofs.YtfemippjaokcmaaGreatDoor
