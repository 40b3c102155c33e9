/- Lists that grow while a parser goes on (Gl): elements one behind the other (Els), in a list of one's own. Calls of the library at this program (strings.Join, strconv.Atoi): its own contracts, laid by its command in plain words. Names with points between them (path). Expressions with commas between them (commas). Parts of a struct with commas between them (commas). -/
import Derived.Test.YtfemippjaokcmaaGreatDoorXah
import Derived.Maps.AppendAt
import Derived.Shelf.Strings.Builder1
import Derived.Shelf.Strings.Builder2
import Derived.Shelf.Strings.OnBuilder
import Derived.Shelf.Small.Bits
import Derived.Shelf.Small.Strs
import Derived.Shelf.Strconv.Atoi
import Derived.Shelf.Strconv.Itoa0
import Derived.Shelf.Strconv.Itoa1
import Derived.Shelf.LaysM
import Derived.Shelf.Strconv.Itoa2
import Derived.Shelf.Strconv.Itoa3
import Derived.Shelf.Strconv.AtoiErrFast
import Derived.Shelf.Strconv.ParseIntEmpty
import Derived.Shelf.Strconv.AtoiFail
import Derived.Shelf.Strconv.Clone
import Derived.Shelf.Strconv.SyntaxError
import Derived.Shelf.LaysC
import Derived.Shelf.Strconv.ToError
import Derived.Shelf.Strconv.AtoiErr
import Derived.Shelf.Strconv.ErrVar
import Derived.Shelf.Strconv.Lower
import Derived.Shelf.Strconv.ParseUint10
import Derived.Shelf.Strconv.ParseUint10Empty
import Derived.Shelf.Strconv.ParseUint10Any
import Derived.Shelf.Strconv.ParseInt10
import Derived.Shelf.Strconv.AtoiLong
import Derived.Shelf.Strconv.AtoiInnerAll
import Derived.Shelf.Strconv.RangeError
import Derived.Shelf.Strconv.ToErrorRange
import Derived.Shelf.Strconv.AtoiAll
import Derived.Shelf.Strconv.ErrVarAll
import Derived.Shelf.Strconv.ParseUintEmpty
import Derived.Shelf.Strconv.ParseUint10b64
import Derived.Shelf.Strconv.ParseUint10b32
import Derived.Shelf.Strconv.ParseUint10b16
import Derived.Shelf.Strconv.ParseUint10b8
import Derived.Shelf.Strconv.ParseUint10At
import Derived.Shelf.Strconv.ParseInt10At64
import Derived.Shelf.Strconv.ParseInt10At32
import Derived.Shelf.Strconv.ParseInt10At16
import Derived.Shelf.Strconv.ParseInt10At8
import Derived.Shelf.Strconv.ParseInt10All
import Derived.Shelf.Strconv.ParseIntPublic10
import Derived.Shelf.Strconv.ErrVarParseInt
import Derived.Shelf.Strings.Search1
import Derived.Shelf.Strings.Prefix
import Derived.Ground.Names2Prog
import Derived.Test.YtfemippjaokcmaaGreatDoorProg
namespace Go.Proofs.YtfemippjaokcmaaGreatDoor
open Go.RowKit Go.Shelf
/- What an element is in memory: its cells, in blocks of a kind; it stays while these stay. -/
structure Elem {α : Type} (E : World → (Nat → Prop) → α → List Value → Prop) (z : Nat) : Prop where
  since : ∀ {w w' : World} {S : Nat → Prop} {x : α} {c : List Value}, E w S x c → Since S w w' → E w' S x c
  imp : ∀ {w : World} {R S : Nat → Prop} {x : α} {c : List Value}, (∀ k, S k → k < w.heap.size → R k) → E w S x c → E w R x c
  len : ∀ {w : World} {S : Nat → Prop} {x : α} {c : List Value}, E w S x c → c.length = z
  ones : ∀ {w : World} {S : Nat → Prop} {x : α} {c : List Value}, E w S x c → ∀ u ∈ c, u.oneCell' = true
def Els {α : Type} (E : World → (Nat → Prop) → α → List Value → Prop) (w : World) (S : Nat → Prop) : List α → List Value → Prop
  | [], L => L = []
  | x :: l, L => ∃ c r, L = c ++ r ∧ E w S x c ∧ Els E w S l r
theorem Els.since {α : Type} {E : World → (Nat → Prop) → α → List Value → Prop} {z : Nat} (hE : Elem E z) {w w' : World} {S : Nat → Prop} (hS : Since S w w') : ∀ {l : List α} {L : List Value}, Els E w S l L → Els E w' S l L
  | [], _, h => h
  | _ :: _, _, ⟨c, r, h1, h2, h3⟩ => ⟨c, r, h1, hE.since h2 hS, Els.since hE hS h3⟩
theorem Els.imp {α : Type} {E : World → (Nat → Prop) → α → List Value → Prop} {z : Nat} (hE : Elem E z) {w : World} {R S : Nat → Prop} (hS : ∀ k, S k → k < w.heap.size → R k) : ∀ {l : List α} {L : List Value}, Els E w S l L → Els E w R l L
  | [], _, h => h
  | _ :: _, _, ⟨c, r, h1, h2, h3⟩ => ⟨c, r, h1, hE.imp hS h2, Els.imp hE hS h3⟩
theorem Els.app {α : Type} {E : World → (Nat → Prop) → α → List Value → Prop} {w : World} {S : Nat → Prop} {y : α} {d : List Value} (hy : E w S y d) : ∀ {l : List α} {L : List Value}, Els E w S l L → Els E w S (l ++ [y]) (L ++ d)
  | [], L, h => by
    have h' : L = [] := h
    subst h'
    exact ⟨d, [], by simp, hy, rfl⟩
  | _ :: _, _, ⟨c, r, h1, h2, h3⟩ => ⟨c, r ++ d, by rw [h1]; simp, h2, Els.app hy h3⟩
theorem Els.at {α : Type} {E : World → (Nat → Prop) → α → List Value → Prop} {z : Nat} (hE : Elem E z) {w : World} {S : Nat → Prop} : ∀ {l : List α} {L : List Value}, Els E w S l L → ∀ i x, l[i]? = some x → ∃ c, E w S x c ∧ ∀ j u, c[j]? = some u → L[i * z + j]? = some u
  | [], _, _, i, x, hi => by simp at hi
  | y :: l, _, ⟨c, r, h1, h2, h3⟩, 0, x, hi => by
    have e : y = x := by simpa using hi
    subst e
    subst h1
    refine ⟨c, h2, fun j u hu => ?_⟩
    rw [Nat.zero_mul, Nat.zero_add, List.getElem?_append_left (List.getElem?_eq_some_iff.1 hu).1]
    exact hu
  | y :: l, _, ⟨c, r, h1, h2, h3⟩, i + 1, x, hi => by
    obtain ⟨d, hd, hk⟩ := Els.at hE h3 i x (by simpa using hi)
    subst h1
    refine ⟨d, hd, fun j u hu => ?_⟩
    have hl := hE.len h2
    rw [List.getElem?_append_right (by rw [hl, Nat.add_mul]; omega)]
    have e : (i + 1) * z + j - c.length = i * z + j := by rw [hl, Nat.add_mul]; omega
    rw [e]
    exact hk j u hu
/- A list of one's own beside a parser. -/
structure Gl {α : Type} (E : World → (Nat → Prop) → α → List Value → Prop) (T z : Nat) (w0 W : World) (b : Nat) (p : Option Addr) (c : Nat) (ws : List Wd) (v : Value) (l : List α) (s : PS) : Prop where
  own : ∃ L, W.ownsRow w0.heap.size T z v l.length L ∧ Els E W (fun k => w0.heap.size ≤ k ∧ v.ownBlock ≠ some k) l L
  onl : Onl b w0 W
  ps : Ps W b p c ws s
  lb : b < w0.heap.size
  old : ∀ g, p = some ⟨g, 0, none⟩ → g < w0.heap.size
theorem own_onl {b : Nat} {w w' : World} {base T z : Nat} {v : Value} {n : Nat} {L : List Value} (h : w.ownsRow base T z v n L) (hb : b < base) (hO : Onl b w w') : w'.ownsRow base T z v n L := by
  refine ⟨h.1, ?_⟩
  rcases h.2 with hn | ⟨g, cap, cur, hv, hg, hr, rest⟩
  · exact .inl hn
  · exact .inr ⟨g, cap, cur, hv, hg, (hO.block g (lt_of_row hr) (by omega)).trans hr, rest⟩
theorem Gl.calls {α : Type} {E : World → (Nat → Prop) → α → List Value → Prop} {T z : Nat} (hE : Elem E z) {w0 W W2 : World} {b : Nat} {p : Option Addr} {c : Nat} {ws : List Wd} {v : Value} {l : List α} {s s2 : PS} (h : Gl E T z w0 W b p c ws v l s) (hO : Onl b W W2) (hP : Ps W2 b p c ws s2) : Gl E T z w0 W2 b p c ws v l s2 := by
  obtain ⟨L, h1, h2⟩ := h.own
  have lb := h.lb
  exact ⟨⟨L, own_onl h1 lb hO, h2.since hE (Since.onl hO (by omega))⟩, h.onl.trans hO, hP, h.lb, h.old⟩
theorem Gl.start {α : Type} (E : World → (Nat → Prop) → α → List Value → Prop) (T z : Nat) {w : World} {b : Nat} {p : Option Addr} {c : Nat} {ws : List Wd} {s : PS} (H : Ps w b p c ws s) : Gl E T z w w b p c ws (.slice none 0 0) ([] : List α) s :=
  ⟨⟨[], World.ownsRow_nil _ _ _ _, rfl⟩, Onl.of (Below.refl _ _), H, lt_of_row H.row, H.old⟩
/- The first one, in a list that was written down. -/
theorem Gl.one {α : Type} {E : World → (Nat → Prop) → α → List Value → Prop} {T z : Nat} (hE : Elem E z) {w0 W W2 : World} {b : Nat} {p : Option Addr} {c : Nat} {ws : List Wd} {s : PS} (H0 : Ps w0 b p c ws s) {s2 : PS} (hO : Onl b w0 W) (hP : Ps W b p c ws s2)
    {x : α} {d : List Value} (hx : E W (fun k => w0.heap.size ≤ k) x d) (hW2 : W2 = W.alloc (.cells d.toArray T)) : Gl E T z w0 W2 b p c ws (.slice (some ⟨W.heap.size, 0, none⟩) 1 1) [x] s2 := by
  have hb2 : Below W.heap.size W W2 := by rw [hW2]; exact (Below.refl _ W).alloc (Nat.le_refl _) _
  refine ⟨⟨d, ⟨by simpa using hE.len hx, .inr ⟨W.heap.size, 1, d.toArray, rfl, hO.size, by rw [hW2]; exact heap_alloc_new _ _, Nat.le_refl _, by decide, by simpa using hE.len hx, ?_⟩⟩, d, [], by simp, ?_, rfl⟩, hO.trans (Onl.of hb2), hP.later hb2, lt_of_row H0.row, H0.old⟩
  · have e := hE.len hx
    simp [List.take_of_length_le (Nat.le_of_eq e)]
  · refine hE.since (hE.imp (fun k hk hl => ⟨hk, fun e => ?_⟩) hx) (Since.below hb2)
    have e' : W.heap.size = k := by injection e
    omega
/- One more: what a call made was appended. -/
theorem Gl.more {α : Type} {E : World → (Nat → Prop) → α → List Value → Prop} {T z : Nat} (hE : Elem E z) {w0 W W2 W3 : World} {b : Nat} {p : Option Addr} {c : Nat} {ws : List Wd} {v v' : Value} {l : List α} {s : PS} (h : Gl E T z w0 W b p c ws v l s)
    {L : List Value} (h2 : Els E W (fun k => w0.heap.size ≤ k ∧ v.ownBlock ≠ some k) l L) {x : α} {d : List Value} (hx : E W (fun k => w0.heap.size ≤ k ∧ v.ownBlock ≠ some k) x d) {o : Obj} (hW2 : W2 = W.alloc o)
    (ho : W3.ownsRow w0.heap.size T z v' (l.length + 1) (L ++ d)) (hg : W2.grownBy W3 v.ownBlock) (ha : v'.ownBlock = v.ownBlock ∨ v'.ownBlock = some (W.heap.size + 1)) : Gl E T z w0 W3 b p c ws v' (l ++ [x]) s := by
  obtain ⟨L', h1, -⟩ := h.own
  have lb := h.lb
  have hsz := h.onl.size
  have hs2 : W2.heap.size = W.heap.size + 1 := by rw [hW2]; simp
  have hb2 : Below W.heap.size W W2 := by rw [hW2]; exact (Below.refl _ W).alloc (Nat.le_refl _) _
  have hkeep : ∀ k, k < W.heap.size → v.ownBlock ≠ some k → W3.heap[k]? = W.heap[k]? := fun k hk hv => (hg.block k (by omega) (fun e => hv e.symm)).trans (hb2.block k hk)
  have hown : ∀ k, v.ownBlock = some k → w0.heap.size ≤ k := fun k hk => (h1.lt k hk).1
  have hsize : W.heap.size ≤ W3.heap.size := Nat.le_trans hb2.size hg.size
  have himp : ∀ k, (w0.heap.size ≤ k ∧ v.ownBlock ≠ some k) → k < W.heap.size → (w0.heap.size ≤ k ∧ v'.ownBlock ≠ some k) := by
    intro k hk hl
    refine ⟨hk.1, ?_⟩
    rcases ha with ha | ha
    · rw [ha]; exact hk.2
    · rw [ha]; intro e; injection e with e; omega
  have hlies' : Els E W3 (fun k => w0.heap.size ≤ k ∧ v'.ownBlock ≠ some k) (l ++ [x]) (L ++ d) := by
    have hS' : Since (fun k => (w0.heap.size ≤ k ∧ v.ownBlock ≠ some k) ∧ k < W.heap.size) W W3 := ⟨hsize, fun k hk hl => hkeep k hl hk.1.2⟩
    have a1 := Els.imp hE (R := fun k => (w0.heap.size ≤ k ∧ v.ownBlock ≠ some k) ∧ k < W.heap.size) (fun k hk hl => ⟨hk, hl⟩) (Els.app hx h2)
    exact Els.imp hE (fun k hk _ => himp k hk.1 hk.2) (a1.since hE hS')
  have lenE : (l ++ [x]).length = l.length + 1 := by simp
  refine ⟨⟨L ++ d, by rw [lenE]; exact ho, hlies'⟩, ?_, ?_, h.lb, h.old⟩
  · refine ⟨hg.os.trans (hb2.os.trans h.onl.os), hg.tape.trans (hb2.tape.trans h.onl.tape), hg.output.trans (hb2.output.trans h.onl.output), Nat.le_trans hsz hsize, fun k hk hb => ?_⟩
    exact (hkeep k (by omega) (fun e => by have := hown k e; omega)).trans (h.onl.block k hk hb)
  · refine ⟨(hkeep b (by omega) (fun e => by have := hown b e; omega)).trans h.ps.row, ⟨h.ps.sl.cap, h.ps.sl.len, fun h0 => ?_⟩, h.ps.lt, h.ps.few⟩
    obtain ⟨g, e, k2, k3⟩ := h.ps.sl.lies h0
    have hgo := h.old g e
    exact ⟨g, e, Nat.lt_of_lt_of_le k2 hsize, fun j u hu => (World.cell?_of_block (a := ⟨g, j, none⟩) (hkeep g k2 (fun e => by have := hown g e; omega))).trans (k3 j u hu)⟩
/- Elements of three kinds: texts, expressions, names with expressions. -/
def EStr (_ : World) (_ : Nat → Prop) (x : ByteArray) (c : List Value) : Prop := c = [.string x]
def EExp (w : World) (S : Nat → Prop) (t : Et) (c : List Value) : Prop := ∃ d, LiesE w S d t (.agg c.toArray)
def EFld (w : World) (S : Nat → Prop) (x : ByteArray × Et) (c : List Value) : Prop := ∃ e, c = .string x.1 :: e ∧ EExp w S x.2 e
theorem eStr : Elem EStr 1 := by
  refine ⟨fun h _ => h, fun _ h => h, fun h => ?_, fun h u hu => ?_⟩
  · rw [h]; rfl
  · rw [h] at hu
    simp at hu
    rw [hu]; rfl
theorem eExp : Elem EExp 10 := by
  refine ⟨fun ⟨d, h⟩ hS => ⟨d, h.since hS⟩, fun hS ⟨d, h⟩ => ⟨d, h.imp hS⟩, fun ⟨d, h⟩ => ?_, fun ⟨d, h⟩ u hu => ?_⟩
  · obtain ⟨V, e, h10, -⟩ := h.agg
    injection e with e
    have := congrArg Array.size e
    simpa [h10] using this
  · obtain ⟨V, e, -, h1⟩ := h.agg
    injection e with e
    rw [← e] at h1
    exact (Array.all_eq_true_iff_forall_mem.1 h1) u (by simpa using hu)
theorem eFld : Elem EFld 11 := by
  refine ⟨fun ⟨e, h1, h2⟩ hS => ⟨e, h1, eExp.since h2 hS⟩, fun hS ⟨e, h1, h2⟩ => ⟨e, h1, eExp.imp hS h2⟩, fun ⟨e, h1, h2⟩ => ?_, fun ⟨e, h1, h2⟩ u hu => ?_⟩
  · rw [h1, List.length_cons, eExp.len h2]
  · rw [h1] at hu
    rcases List.mem_cons.1 hu with rfl | hu
    · rfl
    · exact eExp.ones h2 u hu
def lenOf : Value → Nat
  | .slice _ n _ => n
  | _ => 0
theorem own_len {w : World} {base T z : Nat} {v : Value} {n : Nat} {L : List Value} (h : w.ownsRow base T z v n L) : ∃ q k, v = .slice q n k := by
  rcases h.2 with ⟨hv, hn⟩ | ⟨g, cap, cur, hv, _⟩
  · exact ⟨none, 0, by rw [hv, hn]⟩
  · exact ⟨_, _, hv⟩
end Go.Proofs.YtfemippjaokcmaaGreatDoor
/-
  DERIVED: THE SHELF's CONTRACTS AT THIS DUMP, IN PLAIN WORDS (tools/lay-plain.mjs out of 'TryzShelfT.lean', which tools/lay-shelf.mjs wrote): THE SAME DECLARATIONS UNDER THE SAME NAMES: 'import', 'namespace', 'open', 'def', 'theorem' AND NOTHING ELSE: no command of the shelf's: FOR A HAND-IN. Each laying: the table of numbers ('.._ren') and one theorem, a field a fact of the dump's own or the kernel's comparison; each contract: ONE APPLICATION.
-/
namespace Go.Proofs
open Go.Shelf
def Tryz.lays156_ren : Go.Shelf.Ren := ⟨fun | 156 => 167 | 165 => 172 | 166 => 94 | 169 => 65 | 240 => 131 | 241 => 190 | 276 => 157 | 277 => 201 | n => n, fun | 31 => 22 | 9 => 9 | 3 => 3 | 4 => 4 | 0 => 0 | 20 => 20 | 72 => 112 | 76 => 141 | 70 => 110 | 37 => 84 | 75 => 139 | 127 => 144 | 164 => 177 | 5 => 5 | 80 => 115 | n => n, fun | n => n⟩
theorem Tryz.lays156 : Go.Proofs.Lays.n156 Tryz.prog Tryz.lays156_ren := {
  mixed := by kernel_rfl
  f156 := Tryz.func167.trans (congrArg some (by kernel_rfl))
  f165 := Tryz.func172.trans (congrArg some (by kernel_rfl))
  f166 := Tryz.func94.trans (congrArg some (by kernel_rfl))
  f169 := Tryz.func65.trans (congrArg some (by kernel_rfl))
  f240 := Tryz.func131.trans (congrArg some (by kernel_rfl))
  f241 := Tryz.func190.trans (congrArg some (by kernel_rfl))
  f276 := Tryz.func157.trans (congrArg some (by kernel_rfl))
  f277 := Tryz.func201.trans (congrArg some (by kernel_rfl))
  t0 := Tryz.underlying0
  a0 := Tryz.isAgg0
  z0 := Tryz.sizeOf0
  v0 := Tryz.zeroValue0
  t3 := Tryz.underlying3
  a3 := Tryz.isAgg3
  z3 := Tryz.sizeOf3
  v3 := Tryz.zeroValue3
  t4 := Tryz.underlying4
  a4 := Tryz.isAgg4
  z4 := Tryz.sizeOf4
  v4 := Tryz.zeroValue4
  t9 := Tryz.underlying9
  a9 := Tryz.isAgg9
  z9 := Tryz.sizeOf9
  v9 := Tryz.zeroValue9
  t20 := Tryz.underlying20
  a20 := Tryz.isAgg20
  z20 := Tryz.sizeOf20
  v20 := Tryz.zeroValue20
  t31 := Tryz.underlying22
  a31 := Tryz.isAgg22
  z31 := Tryz.sizeOf22
  v31 := Tryz.zeroValue22
  t37 := Tryz.underlying84
  a37 := Tryz.isAgg84
  z37 := Tryz.sizeOf84
  v37 := Tryz.zeroValue84
  t70 := Tryz.underlying110
  a70 := Tryz.isAgg110
  z70 := Tryz.sizeOf110
  v70 := Tryz.zeroValue110
  t72 := Tryz.underlying112
  a72 := Tryz.isAgg112
  z72 := Tryz.sizeOf112
  v72 := Tryz.zeroValue112
  t75 := Tryz.underlying139
  a75 := Tryz.isAgg139
  z75 := Tryz.sizeOf139
  v75 := Tryz.zeroValue139
  t76 := Tryz.underlying141
  a76 := Tryz.isAgg141
  z76 := Tryz.sizeOf141
  v76 := Tryz.zeroValue141
  t127 := Tryz.underlying144
  a127 := Tryz.isAgg144
  z127 := Tryz.sizeOf144
  v127 := Tryz.zeroValue144
  t164 := Tryz.underlying177
  a164 := Tryz.isAgg177
  z164 := Tryz.sizeOf177
  v164 := Tryz.zeroValue177 }
theorem Tryz.Builder_Extra_156 : Builder.Extra Tryz.prog Tryz.lays156_ren := {
  sizeBuilder := by kernel_rfl
  liesBuilder := by kernel_rfl
  t5 := Tryz.underlying5
  a5 := Tryz.isAgg5
  z5 := Tryz.sizeOf5
  v5 := Tryz.zeroValue5
  infoByte := by kernel_rfl
  cellsByte := by kernel_rfl
  sizeByte := by kernel_rfl
  neB5 := by decide }
open Go.RowKit in
/-- strings.Join: "Join concatenates the elements of its first argument to create a single string. The separator string sep is placed between elements in the resulting string.": HOWEVER MANY ELEMENTS. Below the heap's end the world is as it was. (LAID: no walk: one application.) -/
theorem Tryz.strings_Join (bk o c : Nat) (xs : List ByteArray) (sep : ByteArray) (w : World) (hcells : ∀ (j : Nat) x, xs[j]? = some x → w.cell? ⟨bk, o + j, none⟩ = some (.string x)) (hbk : bk < w.heap.size) (hN : xs.length ≤ 140737488355328) (hcap : xs.length ≤ c) (hlen : (Lib.join (xs.map (·.data.toList)) sep.data.toList).length ≤ 140737488355328) :
    Calls Tryz.prog 167 #[.slice (some ⟨bk, o, none⟩) xs.length c, .string sep] w fun e w' => e = .returned (.string ⟨(Lib.join (xs.map (·.data.toList)) sep.data.toList).toArray⟩) ∧ Below w.heap.size w w' := Any.strings_Join Tryz.lays156 Tryz.Builder_Extra_156 bk o c xs sep w hcells hbk hN hcap hlen
def Tryz.laysC172_ren : Go.Shelf.Ren := ⟨fun | 172 => 150 | 244 => 168 | 245 => 161 | 247 => 160 | 279 => 175 | 280 => 176 | 281 => 177 | 282 => 178 | 287 => 174 | 316 => 194 | 171 => 196 | 205 => 195 | 321 => 192 | 322 => 193 | 243 => 202 | 246 => 206 | 283 => 208 | 284 => 209 | 285 => 210 | 286 => 211 | 129 => 213 | 317 => 212 | 318 => 214 | 319 => 215 | 320 => 216 | 337 => 217 | 338 => 218 | n => n, fun | 9 => 9 | 3 => 3 | 75 => 139 | 76 => 141 | 4 => 4 | 5 => 5 | 167 => 191 | 37 => 84 | 0 => 0 | 85 => 169 | 2 => 2 | 168 => 194 | 53 => 86 | 175 => 192 | 46 => 59 | 210 => 201 | 127 => 144 | 145 => 214 | 143 => 212 | 21 => 21 | 171 => 219 | 173 => 222 | 212 => 225 | 51 => 185 | 20 => 20 | 213 => 226 | 232 => 229 | 233 => 230 | 80 => 115 | n => n, fun | 15 => 1 | 16 => 2 | 17 => 5 | 18 => 6 | 19 => 7 | n => n⟩
theorem Tryz.laysC172 : Go.Proofs.LaysC.n172 Tryz.prog Tryz.laysC172_ren := {
  mixed := by kernel_rfl
  f129 := Tryz.func213.trans (congrArg some (by kernel_rfl))
  f171 := Tryz.func196.trans (congrArg some (by kernel_rfl))
  f172 := Tryz.func150.trans (congrArg some (by kernel_rfl))
  f205 := Tryz.func195.trans (congrArg some (by kernel_rfl))
  f243 := Tryz.func202.trans (congrArg some (by kernel_rfl))
  f244 := Tryz.func168.trans (congrArg some (by kernel_rfl))
  f245 := Tryz.func161.trans (congrArg some (by kernel_rfl))
  f246 := Tryz.func206.trans (congrArg some (by kernel_rfl))
  f247 := Tryz.func160.trans (congrArg some (by kernel_rfl))
  f279 := Tryz.func175.trans (congrArg some (by kernel_rfl))
  f280 := Tryz.func176.trans (congrArg some (by kernel_rfl))
  f281 := Tryz.func177.trans (congrArg some (by kernel_rfl))
  f282 := Tryz.func178.trans (congrArg some (by kernel_rfl))
  f283 := Tryz.func208.trans (congrArg some (by kernel_rfl))
  f284 := Tryz.func209.trans (congrArg some (by kernel_rfl))
  f285 := Tryz.func210.trans (congrArg some (by kernel_rfl))
  f286 := Tryz.func211.trans (congrArg some (by kernel_rfl))
  f287 := Tryz.func174.trans (congrArg some (by kernel_rfl))
  f316 := Tryz.func194.trans (congrArg some (by kernel_rfl))
  f317 := Tryz.func212.trans (congrArg some (by kernel_rfl))
  f318 := Tryz.func214.trans (congrArg some (by kernel_rfl))
  f319 := Tryz.func215.trans (congrArg some (by kernel_rfl))
  f320 := Tryz.func216.trans (congrArg some (by kernel_rfl))
  f321 := Tryz.func192.trans (congrArg some (by kernel_rfl))
  f322 := Tryz.func193.trans (congrArg some (by kernel_rfl))
  f337 := Tryz.func217.trans (congrArg some (by kernel_rfl))
  f338 := Tryz.func218.trans (congrArg some (by kernel_rfl))
  t0 := Tryz.underlying0
  a0 := Tryz.isAgg0
  z0 := Tryz.sizeOf0
  v0 := Tryz.zeroValue0
  t2 := Tryz.underlying2
  a2 := Tryz.isAgg2
  z2 := Tryz.sizeOf2
  v2 := Tryz.zeroValue2
  t3 := Tryz.underlying3
  a3 := Tryz.isAgg3
  z3 := Tryz.sizeOf3
  v3 := Tryz.zeroValue3
  t4 := Tryz.underlying4
  a4 := Tryz.isAgg4
  z4 := Tryz.sizeOf4
  v4 := Tryz.zeroValue4
  t5 := Tryz.underlying5
  a5 := Tryz.isAgg5
  z5 := Tryz.sizeOf5
  v5 := Tryz.zeroValue5
  t9 := Tryz.underlying9
  a9 := Tryz.isAgg9
  z9 := Tryz.sizeOf9
  v9 := Tryz.zeroValue9
  t20 := Tryz.underlying20
  a20 := Tryz.isAgg20
  z20 := Tryz.sizeOf20
  v20 := Tryz.zeroValue20
  t21 := Tryz.underlying21
  a21 := Tryz.isAgg21
  z21 := Tryz.sizeOf21
  v21 := Tryz.zeroValue21
  t37 := Tryz.underlying84
  a37 := Tryz.isAgg84
  z37 := Tryz.sizeOf84
  v37 := Tryz.zeroValue84
  t46 := Tryz.underlying59
  a46 := Tryz.isAgg59
  z46 := Tryz.sizeOf59
  v46 := Tryz.zeroValue59
  t51 := Tryz.underlying185
  a51 := Tryz.isAgg185
  z51 := Tryz.sizeOf185
  v51 := Tryz.zeroValue185
  t53 := Tryz.underlying86
  a53 := Tryz.isAgg86
  z53 := Tryz.sizeOf86
  v53 := Tryz.zeroValue86
  t75 := Tryz.underlying139
  a75 := Tryz.isAgg139
  z75 := Tryz.sizeOf139
  v75 := Tryz.zeroValue139
  t76 := Tryz.underlying141
  a76 := Tryz.isAgg141
  z76 := Tryz.sizeOf141
  v76 := Tryz.zeroValue141
  t85 := Tryz.underlying169
  a85 := Tryz.isAgg169
  z85 := Tryz.sizeOf169
  v85 := Tryz.zeroValue169
  t127 := Tryz.underlying144
  a127 := Tryz.isAgg144
  z127 := Tryz.sizeOf144
  v127 := Tryz.zeroValue144
  t143 := Tryz.underlying212
  a143 := Tryz.isAgg212
  z143 := Tryz.sizeOf212
  v143 := Tryz.zeroValue212
  t145 := Tryz.underlying214
  a145 := Tryz.isAgg214
  z145 := Tryz.sizeOf214
  v145 := Tryz.zeroValue214
  t167 := Tryz.underlying191
  a167 := Tryz.isAgg191
  z167 := Tryz.sizeOf191
  v167 := Tryz.zeroValue191
  t168 := Tryz.underlying194
  a168 := Tryz.isAgg194
  z168 := Tryz.sizeOf194
  v168 := Tryz.zeroValue194
  t171 := Tryz.underlying219
  a171 := Tryz.isAgg219
  z171 := Tryz.sizeOf219
  v171 := Tryz.zeroValue219
  t173 := Tryz.underlying222
  a173 := Tryz.isAgg222
  z173 := Tryz.sizeOf222
  v173 := Tryz.zeroValue222
  t175 := Tryz.underlying192
  a175 := Tryz.isAgg192
  z175 := Tryz.sizeOf192
  v175 := Tryz.zeroValue192
  t210 := Tryz.underlying201
  a210 := Tryz.isAgg201
  z210 := Tryz.sizeOf201
  v210 := Tryz.zeroValue201
  t212 := Tryz.underlying225
  a212 := Tryz.isAgg225
  z212 := Tryz.sizeOf225
  v212 := Tryz.zeroValue225
  t213 := Tryz.underlying226
  a213 := Tryz.isAgg226
  z213 := Tryz.sizeOf226
  t232 := Tryz.underlying229
  a232 := Tryz.isAgg229
  z232 := Tryz.sizeOf229
  v232 := Tryz.zeroValue229
  t233 := Tryz.underlying230
  a233 := Tryz.isAgg230
  z233 := Tryz.sizeOf230
  v233 := Tryz.zeroValue230
  g15 := by kernel_rfl
  g16 := by kernel_rfl
  g17 := by kernel_rfl
  g18 := by kernel_rfl
  g19 := by kernel_rfl
  t80 := Tryz.underlying115
  a80 := Tryz.isAgg115
  z80 := Tryz.sizeOf115
  v80 := Tryz.zeroValue115
  i0 := by kernel_rfl
  i2 := by kernel_rfl
  i3 := by kernel_rfl
  i4 := by kernel_rfl
  i5 := by kernel_rfl
  i9 := by kernel_rfl
  i20 := by kernel_rfl
  i21 := by kernel_rfl
  i37 := by kernel_rfl
  i46 := by kernel_rfl
  i51 := by kernel_rfl
  i53 := by kernel_rfl
  i75 := by kernel_rfl
  i76 := by kernel_rfl
  i80 := by kernel_rfl
  i85 := by kernel_rfl
  i127 := by kernel_rfl
  i143 := by kernel_rfl
  i145 := by kernel_rfl
  i167 := by kernel_rfl
  i168 := by kernel_rfl
  i171 := by kernel_rfl
  i173 := by kernel_rfl
  i175 := by kernel_rfl
  i210 := by kernel_rfl
  i212 := by kernel_rfl
  i232 := by kernel_rfl
  i233 := by kernel_rfl
  m15 := by kernel_rfl
  m16 := by kernel_rfl
  m17 := by kernel_rfl
  m18 := by kernel_rfl
  m19 := by kernel_rfl
  c0 := by kernel_rfl
  c2 := by kernel_rfl
  c3 := by kernel_rfl
  c4 := by kernel_rfl
  c5 := by kernel_rfl
  c9 := by kernel_rfl
  c20 := by kernel_rfl
  c21 := by kernel_rfl
  c37 := by kernel_rfl
  c46 := by kernel_rfl
  c51 := by kernel_rfl
  c53 := by kernel_rfl
  c75 := by kernel_rfl
  c76 := by kernel_rfl
  c80 := by kernel_rfl
  c85 := by kernel_rfl
  c127 := by kernel_rfl
  c143 := by kernel_rfl
  c145 := by kernel_rfl
  c167 := by kernel_rfl
  c168 := by kernel_rfl
  c171 := by kernel_rfl
  c173 := by kernel_rfl
  c175 := by kernel_rfl
  c210 := by kernel_rfl
  c212 := by kernel_rfl
  c213 := by kernel_rfl
  c232 := by kernel_rfl
  c233 := by kernel_rfl }
open Go.RowKit in
/-- strconv.Atoi, AT EVERY STRING THAT SPELLS AN int ('Lib.atoiAll .. = .ok v'; of whatever length: leading zeros count): v, AND NO ERROR. The world: as it was, or with the one new row that '[]byte(..)' lays. (LAID: no walk: one application.) -/
theorem Tryz.strconv_Atoi_ok (s : ByteArray) (hmax : s.size ≤ 9223372036854775806) (v : Int) (h : Lib.atoiAll s.data.toList = .ok v) (w : World) :
    Calls Tryz.prog 150 #[.string s] w fun e w' => e = .returned (.tuple #[.int .i64 v, .nilIface]) ∧ (w' = w ∨ ∃ t, w' = Lib.bytesWorld w 5 t) := Any.strconv_Atoi_ok Tryz.laysC172 s hmax v h w
open Go.RowKit in
/-- strconv.Atoi, AT EVERY STRING THAT IS NO DECIMAL NUMERAL ('.syntax'): 0, AND AN ERROR THAT IS NOT nil: a *NumError in a new block N: {Func: "Atoi", Num: s's bytes, Err: what the variable ErrSyntax holds}. Of what was there nothing has turned. (LAID: no walk: one application.) -/
theorem Tryz.strconv_Atoi_syntax (s : ByteArray) (hlim : s.size ≤ 281474976710656) (h : Lib.atoiAll s.data.toList = .«syntax») (ev : Value) (w : World) (hv : w.cell? ⟨1, 0, none⟩ = some ev) (hev : ev = .nilIface ∨ ∃ te pe, ev = .iface te pe) :
    Calls Tryz.prog 150 #[.string s] w fun e w' => ∃ N, e = .returned (.tuple #[.int .i64 (0), .iface 194 (.pointer (some ⟨N, 0, none⟩))]) ∧ w.heap.size ≤ N ∧ w'.heap[N]? = some (.cells #[.string ⟨#[65, 116, 111, 105]⟩, .string s, ev] 201 (0, 0)) ∧ Below w.heap.size w w' := Any.strconv_Atoi_syntax Tryz.laysC172 s hlim h ev w hv hev
open Go.RowKit in
/-- strconv.Atoi, AT EVERY NUMERAL THAT NO int HOLDS ('.range'): THE GREATEST OR THE LEAST int, BY THE SIGN ('Lib.atoiSat'), AND AN ERROR THAT IS NOT nil: a *NumError in a new block N: {Func: "Atoi", Num: s's bytes, Err: what the variable ErrRange holds}. Of what was there nothing has turned. (LAID: no walk: one application.) -/
theorem Tryz.strconv_Atoi_range (s : ByteArray) (hlim : s.size ≤ 281474976710656) (h : Lib.atoiAll s.data.toList = .range) (ev : Value) (w : World) (hv : w.cell? ⟨2, 0, none⟩ = some ev) (hev : ev = .nilIface ∨ ∃ te pe, ev = .iface te pe) :
    Calls Tryz.prog 150 #[.string s] w fun e w' => ∃ N, e = .returned (.tuple #[.int .i64 (Lib.atoiSat s.data.toList), .iface 194 (.pointer (some ⟨N, 0, none⟩))]) ∧ w.heap.size ≤ N ∧ w'.heap[N]? = some (.cells #[.string ⟨#[65, 116, 111, 105]⟩, .string s, ev] 201 (0, 0)) ∧ Below w.heap.size w w' := Any.strconv_Atoi_range Tryz.laysC172 s hlim h ev w hv hev
end Go.Proofs
namespace Go.Proofs.YtfemippjaokcmaaGreatDoor
open Go.RowKit Go.Shelf
attribute [local go_sem] Oper.semAt_some fw0 fw1 fw2
/- Words as lex has them: not long, and numbers are numbers. -/
def Wl (ws : List Wd) : Prop := ∀ i, (wAt ws i).s.length ≤ 10000 ∧ NumOk (wAt ws i)
theorem join_joinB : ∀ l : List ByteArray, Lib.join (l.map (·.data.toList)) [46] = joinB l
  | [] => rfl
  | [x] => by simp [Lib.join_one, joinB]
  | x :: y :: l => by
    have h := join_joinB (y :: l)
    simp only [List.map_cons] at h ⊢
    rw [Lib.join_cons] at h ⊢
    rw [joinB, ← h]
    simp [Lib.joinTail]
theorem joinB_len : ∀ l : List ByteArray, (∀ x ∈ l, x.data.toList.length ≤ 10000) → (joinB l).length ≤ l.length * 10001
  | [], _ => by simp [joinB]
  | [x], h => by have := h x (by simp); simp only [joinB, List.length_singleton]; omega
  | x :: y :: l, h => by
    have h1 := h x (by simp)
    have h2 := joinB_len (y :: l) (fun z hz => h z (by simp [hz]))
    simp only [joinB, List.length_append, List.length_cons] at h2 ⊢
    omega
theorem nameS_len {ws : List Wd} (hl : Wl ws) (s : PS) : (nameS ws s).data.toList.length ≤ 10000 := by
  unfold nameS
  split
  · exact (hl s.at').1
  · simp
theorem nameP_ge {ws : List Wd} (s : PS) (h : s.at' < ws.length) : s.at' ≤ (nameP ws s).at' := by
  unfold nameP failP takeP
  split
  · simp
  · split
    · simp only; omega
    · exact Nat.le_refl _
theorem info9 : (Tryz.prog.info? 9).map (fun i => (i.zero, i.size, i.bytes)) = some (some (.string ⟨#[]⟩), 1, 16) := by kernel_rfl
theorem own_strs {w : World} {base : Nat} {v : Value} {l : List ByteArray} {L : List Value} (h : w.ownsRow base 9 1 v l.length L) (hE : Els EStr w (fun _ => True) l L) (h0 : 0 < l.length) : ∃ g cap, v = .slice (some ⟨g, 0, none⟩) l.length cap ∧ l.length ≤ cap ∧ g < w.heap.size ∧ ∀ (j : Nat) x, l[j]? = some x → w.cell? ⟨g, 0 + j, none⟩ = some (.string x) := by
  rcases h.2 with ⟨_, hn⟩ | ⟨g, cap, cur, hv, hg, hr, h1, h2, h3, h4⟩
  · omega
  · refine ⟨g, cap, hv, h1, lt_of_row hr, fun j x hj => ?_⟩
    obtain ⟨c, hc, hk⟩ := Els.at eStr hE j x hj
    have hc' : c = [.string x] := hc
    have e := hk 0 (.string x) (by rw [hc']; rfl)
    rw [Nat.mul_one, Nat.add_zero, ← h4, List.getElem?_take] at e
    rw [Nat.zero_add, cell_of_row w g j cur _ _ hr]
    split at e
    · simpa using e
    · cases e
set_option maxRecDepth 100000 in
set_option maxHeartbeats 8000000 in
theorem path_any {w : World} {b : Nat} {p : Option Addr} {c : Nat} {ws : List Wd} {s : PS} (H : Ps w b p c ws s) (hz : Wz ws) (hl : Wl ws) :
    Calls Tryz.prog 149 #[.pointer (some ⟨b, 0, none⟩)] w fun r w' => r = .returned (.string (pathF ws s).1) ∧ Ps w' b p c ws (pathF ws s).2 ∧ Onl b w w' := by
  have k1 := pname_any H hz
  have few := H.few
  unfold pathF
  have hge := nameP_ge s H.lt
  obtain ⟨V, hV⟩ : ∃ V, pathL ws ws.length [nameS ws s] (nameP ws s) = V := ⟨_, rfl⟩
  rw [hV]
  have HV : Hid (pathL ws ws.length [nameS ws s] (nameP ws s) = V ∧ (nameS ws s).data.toList.length ≤ 10000) := ⟨hV, nameS_len hl s⟩
  have H0 : Hid (Ps w b p c ws s) := H
  have HL : Hid (Wl ws) := hl
  obtain ⟨x0, hx0⟩ : ∃ x0, nameS ws s = x0 := ⟨_, rfl⟩
  obtain ⟨s0, hs0⟩ : ∃ s0, nameP ws s = s0 := ⟨_, rfl⟩
  rw [hx0, hs0] at HV
  rw [hx0, hs0] at k1
  clear H hV hl hx0 hs0 hge
  go_enter Tryz.func149, Tryz.ntmps149
  go_wp2_with fail
  refine k1.mono ?_
  rintro q w1 ⟨rfl, hP1, hO1⟩
  obtain ⟨w2, hw2⟩ : ∃ w2, w1.alloc (.cells #[.string x0] 9) = w2 := ⟨_, rfl⟩
  have G2 : Gl EStr 9 1 w w2 b p c ws (.slice (some ⟨w1.heap.size, 0, none⟩) 1 1) [x0] s0 := Gl.one eStr (W := w1) (d := [.string x0]) H0.out hO1 hP1 rfl hw2.symm
  have HG : Hid (Gl EStr 9 1 w w2 b p c ws (.slice (some ⟨w1.heap.size, 0, none⟩) 1 1) [x0] s0) := G2
  clear k1 hP1 hO1 G2
  obtain ⟨i0, hi, hz0, hz1, hz2⟩ := info_parts info9
  go_wp2_with fail
  go_loopw [3] (fun c3 wr => ∃ n l t, Hid (Gl EStr 9 1 w wr b p c ws c3 l t ∧ pathL ws n l t = V ∧ ws.length ≤ t.at' + n ∧ 0 < l.length ∧ l.length ≤ t.at' + 1 ∧ ∀ x ∈ l, x.data.toList.length ≤ 10000)) (fun _ wr => ws.length - atW b wr)
  case atStart =>
    refine ⟨ws.length, [x0], s0, ?_⟩
    have hh : Gl EStr 9 1 w w2 b p c ws (.slice (some ⟨w1.heap.size, 0, none⟩) 1 1) [x0] s0 ∧ pathL ws ws.length [x0] s0 = V ∧ ws.length ≤ s0.at' + ws.length ∧ 0 < [x0].length ∧ [x0].length ≤ s0.at' + 1 ∧ ∀ x ∈ [x0], x.data.toList.length ≤ 10000 := by
      refine ⟨HG.out, HV.out.1, by omega, by simp, by simp, fun x hx => ?_⟩
      have e : x = x0 := by simpa using hx
      rw [e]
      exact HV.out.2
    exact hh
  case round =>
    obtain ⟨n, l, t, hh⟩ := hrel
    obtain ⟨G, hlo, hle, h0, hll, hlx⟩ := hh.out
    have kt := tookSign_any G.ps hz ⟨#[46]⟩
    have lx := G.ps.lt
    have hI : isW (wAt ws t.at') 6 ⟨#[46]⟩ = isP (wAt ws t.at') 6 [46] := isW_isP _ _ _
    obtain ⟨m, rfl⟩ : ∃ m, n = m + 1 := ⟨n - 1, by omega⟩
    unfold pathL at hlo
    unfold tookP at kt
    rw [hI] at kt
    by_cases hy : isP (wAt ws t.at') 6 [46] = true
    · rw [if_pos hy] at hlo kt
      rw [hy] at kt
      have h1 := hz.next lx (by rw [isP_kind hy]; decide)
      have hge := nameP_ge (ws := ws) (takeP t) h1
      have hgt : (takeP t).at' = t.at' + 1 := rfl
      have hsl := nameS_len HL.out (takeP t)
      have hlw : l.length ≤ 3001 := by omega
      have HG2 : Hid (Gl EStr 9 1 w wr b p c ws u3 l t ∧ pathL ws m (l ++ [nameS ws (takeP t)]) (nameP ws (takeP t)) = V ∧ 0 < l.length ∧ l.length ≤ t.at' + 1 ∧ (∀ x ∈ l, x.data.toList.length ≤ 10000) ∧ t.at' + 1 ≤ (nameP ws (takeP t)).at' ∧ (nameS ws (takeP t)).data.toList.length ≤ 10000 ∧ ws.length ≤ t.at' + (m + 1)) := ⟨G, hlo, h0, hll, hlx, by omega, hsl, hle⟩
      clear HG HV hlo hle h0 hll hlx G hI hy hge hgt hsl hh hw2 lx
      go_wp2_with fail
      refine kt.mono ?_
      rintro q w3 ⟨rfl, hP3, hO3⟩
      have kn := pname_any hP3 hz
      obtain ⟨x1, hx1⟩ : ∃ x1, nameS ws (takeP t) = x1 := ⟨_, rfl⟩
      obtain ⟨t1, ht1⟩ : ∃ t1, nameP ws (takeP t) = t1 := ⟨_, rfl⟩
      rw [hx1, ht1] at kn HG2
      have G3 := HG2.out.1.calls eStr hO3 hP3
      have HG3 : Hid (Gl EStr 9 1 w w3 b p c ws u3 l (takeP t)) := G3
      clear kt hP3 hO3 G3 hx1 ht1
      go_wp2_with fail
      refine kn.mono ?_
      rintro q w4 ⟨rfl, hP4, hO4⟩
      have G4 := HG3.out.calls eStr hO4 hP4
      obtain ⟨L, hown, hels⟩ := G4.own
      have hsz := G4.onl.size
      have HG4 : Hid (Gl EStr 9 1 w w4 b p c ws u3 l t1 ∧ Els EStr w4 (fun k => w.heap.size ≤ k ∧ u3.ownBlock ≠ some k) l L) := ⟨G4, hels⟩
      clear kn hP4 hO4 G4 hels
      go_wp2_with (at_builtin; refine wpList_append_own_at _ rfl _ _ 22 rfl w.heap.size 9 i0 (.string ⟨#[]⟩) 1 16 Tryz.underlying22 hi hz0 hz1 hz2 rfl (by decide) _ _ _ rfl (hown.alloc _) ⟨w4.heap.size, 0, none⟩ 1 1 [.string x1] rfl rfl ?c1 ?c2 ?c3 ?c4 ?c5 ?_)
      case c1 => exact World.news_of_block (heap_alloc_new w4 _)
      case c2 => exact fun u hu => by rw [List.mem_singleton] at hu; rw [hu]; rfl
      case c3 => unfold maxLen; omega
      case c4 => omega
      case c5 => simp; omega
      intro v' w5 hown5 hgr5 _ hat5
      have G5 : Gl EStr 9 1 w w5 b p c ws v' (l ++ [x1]) t1 := HG4.out.1.more eStr HG4.out.2 (x := x1) (d := [.string x1]) rfl rfl hown5 hgr5 hat5
      have HG5 : Hid (Gl EStr 9 1 w w5 b p c ws v' (l ++ [x1]) t1) := G5
      clear hown hown5 hgr5 hat5 G5
      go_wp2_with fail
      go_roundw
      case rel =>
        refine ⟨m, l ++ [x1], t1, ?_⟩
        obtain ⟨-, a1, a2, a3, a4, a5, a6, a7⟩ := HG2.out
        have hh : Gl EStr 9 1 w w5 b p c ws v' (l ++ [x1]) t1 ∧ pathL ws m (l ++ [x1]) t1 = V ∧ ws.length ≤ t1.at' + m ∧ 0 < (l ++ [x1]).length ∧ (l ++ [x1]).length ≤ t1.at' + 1 ∧ ∀ x ∈ l ++ [x1], x.data.toList.length ≤ 10000 := by
          refine ⟨HG5.out, a1, by omega, by simp, by simp; omega, fun x hx => ?_⟩
          rcases List.mem_append.1 hx with hx | hx
          · exact a4 x hx
          · have e : x = x1 := by simpa using hx
            rw [e]
            exact a6
        exact hh
      case measure =>
        obtain ⟨-, a1, a2, a3, a4, a5, a6, a7⟩ := HG2.out
        rw [HG5.out.ps.atW, HG2.out.1.ps.atW]
        omega
    · rw [if_neg hy] at hlo kt
      have hf : isP (wAt ws t.at') 6 [46] = false := by simpa using hy
      rw [hf] at kt
      subst hlo
      have HG2 : Hid (Gl EStr 9 1 w wr b p c ws u3 l t ∧ 0 < l.length ∧ (∀ x ∈ l, x.data.toList.length ≤ 10000)) := ⟨G, h0, hlx⟩
      have hlw : l.length ≤ 3001 := by omega
      clear HG HV hle h0 hll hlx G hI hy hh hw2 lx hf
      go_wp2_with fail
      refine kt.mono ?_
      rintro q w3 ⟨rfl, hP3, hO3⟩
      have G3 := HG2.out.1.calls eStr hO3 hP3
      obtain ⟨L, hown, hels⟩ := G3.own
      obtain ⟨g, cap, rfl, hcap, hg, hcl⟩ := own_strs hown (hels.imp eStr fun _ _ _ => trivial) HG2.out.2.1
      have jl := joinB_len l HG2.out.2.2
      have kj := Tryz.strings_Join g 0 cap l ⟨#[46]⟩ w3 hcl hg (by omega) hcap (by
        have e := join_joinB l
        show (Lib.join (l.map (·.data.toList)) [46]).length ≤ _
        rw [e]
        omega)
      have kj' : Calls Tryz.prog 167 #[.slice (some ⟨g, 0, none⟩) l.length cap, .string ⟨#[46]⟩] w3 fun e w' => e = .returned (.string ⟨(joinB l).toArray⟩) ∧ Below w3.heap.size w3 w' := by
        have e := join_joinB l
        rw [← e]
        exact kj
      obtain ⟨J, hJ⟩ : ∃ J : ByteArray, ⟨(joinB l).toArray⟩ = J := ⟨_, rfl⟩
      rw [hJ] at kj'
      have HG3 : Hid (Ps w3 b p c ws t ∧ Onl b w w3 ∧ (⟨(joinB l).toArray⟩ : ByteArray) = J) := ⟨hP3, G3.onl, hJ⟩
      clear kt hP3 hO3 G3 hown hels hcl kj jl hJ
      go_wp2_with fail
      refine kj'.mono ?_
      rintro q w4 ⟨rfl, hb4⟩
      clear kj'
      go_wp2
      go_ret
      refine ⟨?_, HG3.out.1.later hb4, HG3.out.2.1.trans (Onl.of hb4)⟩
      rw [← HG3.out.2.2]
      rfl
end Go.Proofs.YtfemippjaokcmaaGreatDoor
namespace Go.Proofs.YtfemippjaokcmaaGreatDoor
open Go.RowKit Go.Shelf
attribute [local go_sem] Oper.semAt_some fw0 fw1 fw2
theorem info28c : (Tryz.prog.info? 28).map (fun i => (i.zero, i.size, i.bytes)) = some (some (.agg #[.int .i64 0, .string ⟨#[]⟩, .int .i64 0, .bool false, .int .i64 0, .string ⟨#[]⟩, .slice none 0 0, .slice none 0 0, .slice none 0 0, .slice none 0 0]), 10, 160) := by kernel_rfl
set_option maxRecDepth 100000 in
set_option maxHeartbeats 8000000 in
theorem commasE_any {w : World} {b : Nat} {p : Option Addr} {c : Nat} {ws : List Wd} {s : PS} (H : Ps w b p c ws s) (hz : Wz ws) (F : PS → Et × PS) (hF : ∀ u, u.at' < ws.length → Pk 0 0 ws u (F u).2)
    (kb : ∀ W u, Ps W b p c ws u → Pk 0 0 ws s u → Calls Tryz.prog 120 #[.pointer (some ⟨b, 0, none⟩)] W fun r w' => ∃ v d, r = .returned v ∧ v = .agg d.toArray ∧ EExp w' (fun k => W.heap.size ≤ k) (F u).1 d ∧ Ps w' b p c ws (F u).2 ∧ Onl b W w') :
    Calls Tryz.prog 198 #[.pointer (some ⟨b, 0, none⟩), .func (.func 120) #[.pointer (some ⟨b, 0, none⟩)] #[]] w fun r w' => ∃ v, r = .returned v ∧ Gl EExp 28 10 w w' b p c ws v (comF ws F 33 [] s).1 (comF ws F 33 [] s).2 := by
  obtain ⟨V, hV⟩ : ∃ V, comF ws F 33 [] s = V := ⟨_, rfl⟩
  rw [hV]
  have HV : Hid (comF ws F 33 [] s = V ∧ Ps w b p c ws s) := ⟨hV, H⟩
  have HF : Hid (∀ u, u.at' < ws.length → Pk 0 0 ws u (F u).2) := hF
  clear H hV hF
  obtain ⟨i0, hi, hz0, hz1, hz2⟩ := info_parts info28c
  go_enter Tryz.func198, Tryz.ntmps198
  go_wp2_with fail
  go_loopw [5] (fun c5 wr => ∃ n l t, (n + l.length = 33 ∧ 0 < n) ∧ (∃ q k, c5 = .slice q l.length k) ∧ Hid (Gl EExp 28 10 w wr b p c ws c5 l t ∧ comF ws F n l t = V ∧ Pk 0 0 ws s t)) (fun c5 _ => 33 - lenOf c5)
  case atStart =>
    refine ⟨33, [], s, ⟨rfl, by decide⟩, ⟨none, 0, rfl⟩, ?_⟩
    have hh : Gl EExp 28 10 w w b p c ws (.slice none 0 0) [] s ∧ comF ws F 33 [] s = V ∧ Pk 0 0 ws s s := ⟨Gl.start _ _ _ HV.out.2, HV.out.1, Pk.refl HV.out.2.lt⟩
    exact hh
  case round =>
    obtain ⟨n, l, t, ⟨hn, hn0⟩, ⟨q5, k5, rfl⟩, hh⟩ := hrel
    obtain ⟨G, hlo, hpk⟩ := hh.out
    by_cases h32 : l.length = 32
    · obtain rfl : n = 1 := by omega
      have hlo2 : ([], failP ws t 3) = V := by
        unfold comF at hlo
        rw [if_pos h32] at hlo
        exact hlo
      have kf := fail_any G.ps 3
      have HG : Hid (Gl EExp 28 10 w wr b p c ws (.slice q5 l.length k5) l t) := G
      have h32' : (l.length : Int) = 32 := by omega
      subst hlo2
      clear hlo G hpk hh h32 HV
      go_wp2_with fail
      refine kf.mono ?_
      rintro r w2 ⟨rfl, hP2, hO2⟩
      have HG2 : Hid (Ps w2 b p c ws (failP ws t 3) ∧ Onl b wr w2) := ⟨hP2, hO2⟩
      clear kf hP2 hO2
      go_wp2
      go_ret
      exact ⟨_, rfl, ⟨[], World.ownsRow_nil _ _ _ _, rfl⟩, HG.out.onl.trans HG2.out.2, HG2.out.1, HG.out.lb, HG.out.old⟩
    · obtain ⟨m, rfl⟩ : ∃ m, n = m + 1 := ⟨n - 1, by omega⟩
      unfold comF at hlo
      rw [if_neg h32] at hlo
      have h32' : ¬ (l.length : Int) = 32 := by omega
      have kb1 := kb wr t G.ps hpk
      have hpk2 := hpk.trans (HF.out t G.ps.lt)
      obtain ⟨X, hX⟩ : ∃ X, F t = X := ⟨_, rfl⟩
      rw [hX] at kb1 hlo hpk2
      have HG : Hid (Gl EExp 28 10 w wr b p c ws (.slice q5 l.length k5) l t ∧ (if isP (wAt ws X.2.at') 6 [44] = true then comF ws F m (l ++ [X.1]) (takeP X.2) else (l ++ [X.1], X.2)) = V ∧ Pk 0 0 ws s X.2) := ⟨G, hlo, hpk2⟩
      have hlw : l.length ≤ 32 := by omega
      clear hlo G hpk hpk2 hh hX HV h32
      go_wp2_with fail
      refine kb1.mono ?_
      rintro r w2 ⟨v2, d2, rfl, hv2, hE2, hP2, hO2⟩
      have G2 := HG.out.1.calls eExp hO2 hP2
      obtain ⟨L, hown, hels⟩ := G2.own
      have hsz := G2.onl.size
      have hszr := HG.out.1.onl.size
      obtain ⟨dd, hdd⟩ := id hE2
      obtain ⟨R, hR⟩ := hdd.row
      have hd2 : d2 = [.int .i64 R.k, .string R.s, .int .i64 R.vk, .bool R.vb, .int .i64 R.vn, .string R.vs, .slice none 0 0, .slice none 0 0, .slice R.kp R.n R.kc, .slice R.np R.m R.nc] := by
        unfold rowX at hR
        injection hR with hR
        have := congrArg Array.toList hR
        simpa using this
      subst hd2
      subst hv2
      clear hdd hR
      have HG2 : Hid (Gl EExp 28 10 w w2 b p c ws (.slice q5 l.length k5) l X.2 ∧ Els EExp w2 (fun k => w.heap.size ≤ k ∧ (Value.slice q5 l.length k5).ownBlock ≠ some k) l L ∧ EExp w2 (fun k => w.heap.size ≤ k ∧ (Value.slice q5 l.length k5).ownBlock ≠ some k) X.1 [.int .i64 R.k, .string R.s, .int .i64 R.vk, .bool R.vb, .int .i64 R.vn, .string R.vs, .slice none 0 0, .slice none 0 0, .slice R.kp R.n R.kc, .slice R.np R.m R.nc]) := by
        refine ⟨G2, hels, eExp.imp (fun k hk hl => ⟨by omega, fun e => ?_⟩) hE2⟩
        obtain ⟨L1, hown1, -⟩ := HG.out.1.own
        have := (hown1.lt k e).2
        omega
      clear kb1 hP2 hO2 G2 hels hE2
      go_wp2_with (at_builtin; refine wpList_append_own_at _ rfl _ _ 26 rfl w.heap.size 28 i0 (.agg #[.int .i64 0, .string ⟨#[]⟩, .int .i64 0, .bool false, .int .i64 0, .string ⟨#[]⟩, .slice none 0 0, .slice none 0 0, .slice none 0 0, .slice none 0 0]) 10 160 Tryz.underlying26 hi hz0 hz1 hz2 rfl (by decide) _ _ _ rfl (hown.alloc _) ⟨w2.heap.size, 0, none⟩ 1 1 [.int .i64 R.k, .string R.s, .int .i64 R.vk, .bool R.vb, .int .i64 R.vn, .string R.vs, .slice none 0 0, .slice none 0 0, .slice R.kp R.n R.kc, .slice R.np R.m R.nc] rfl rfl ?c1 ?c2 ?c3 ?c4 ?c5 ?_)
      case c1 => exact World.news_of_block (heap_alloc_new w2 _)
      case c2 => exact eExp.ones HG2.out.2.2
      case c3 => unfold maxLen; omega
      case c4 => omega
      case c5 => simp; omega
      intro v' w5 hown5 hgr5 _ hat5
      have G5 : Gl EExp 28 10 w w5 b p c ws v' (l ++ [X.1]) X.2 := HG2.out.1.more eExp HG2.out.2.1 (x := X.1) (d := [.int .i64 R.k, .string R.s, .int .i64 R.vk, .bool R.vb, .int .i64 R.vn, .string R.vs, .slice none 0 0, .slice none 0 0, .slice R.kp R.n R.kc, .slice R.np R.m R.nc]) HG2.out.2.2 rfl hown5 hgr5 hat5
      have kt := tookSign_any G5.ps hz ⟨#[44]⟩
      have hI : isW (wAt ws X.2.at') 6 ⟨#[44]⟩ = isP (wAt ws X.2.at') 6 [44] := isW_isP _ _ _
      unfold tookP at kt
      rw [hI] at kt
      obtain ⟨q6, k6, rfl⟩ := own_len hown5
      have HG5 : Hid (Gl EExp 28 10 w w5 b p c ws (.slice q6 (l.length + 1) k6) (l ++ [X.1]) X.2) := G5
      clear hown hown5 hgr5 hat5 G5 hI HG2
      by_cases hy : isP (wAt ws X.2.at') 6 [44] = true
      · rw [hy, if_pos rfl] at kt
        have hlo : comF ws F m (l ++ [X.1]) (takeP X.2) = V := by
          have := HG.out.2.1
          rw [if_pos hy] at this
          exact this
        have hpk3 := (HG.out.2.2.is hz hy (by decide)).less
        have H3 : Hid (comF ws F m (l ++ [X.1]) (takeP X.2) = V ∧ Pk 0 0 ws s (takeP X.2)) := ⟨hlo, hpk3⟩
        clear hlo hpk3 hy HG
        go_wp2_with fail
        refine kt.mono ?_
        rintro r w6 ⟨rfl, hP6, hO6⟩
        have G6 := HG5.out.calls eExp hO6 hP6
        have HG6 : Hid (Gl EExp 28 10 w w6 b p c ws (.slice q6 (l.length + 1) k6) (l ++ [X.1]) (takeP X.2)) := G6
        clear kt hP6 hO6 G6 HG5
        go_wp2_with fail
        go_roundw
        case rel =>
          refine ⟨m, l ++ [X.1], takeP X.2, ⟨by simp; omega, by omega⟩, ⟨q6, k6, by simp⟩, ?_⟩
          have hh : Gl EExp 28 10 w w6 b p c ws (.slice q6 (l.length + 1) k6) (l ++ [X.1]) (takeP X.2) ∧ comF ws F m (l ++ [X.1]) (takeP X.2) = V ∧ Pk 0 0 ws s (takeP X.2) := ⟨HG6.out, H3.out.1, H3.out.2⟩
          exact hh
        case measure =>
          simp only [lenOf]
          omega
      · have hf : isP (wAt ws X.2.at') 6 [44] = false := by simpa using hy
        rw [hf, if_neg Bool.false_ne_true] at kt
        have hlo : (l ++ [X.1], X.2) = V := by
          have := HG.out.2.1
          rw [if_neg hy] at this
          exact this
        subst hlo
        clear hy hf HG
        go_wp2_with fail
        refine kt.mono ?_
        rintro r w6 ⟨rfl, hP6, hO6⟩
        have G6 := HG5.out.calls eExp hO6 hP6
        have HG6 : Hid (Gl EExp 28 10 w w6 b p c ws (.slice q6 (l.length + 1) k6) (l ++ [X.1]) X.2) := G6
        clear kt hP6 hO6 G6 HG5
        go_wp2
        go_ret
        exact ⟨_, rfl, HG6.out⟩
end Go.Proofs.YtfemippjaokcmaaGreatDoor
namespace Go.Proofs.YtfemippjaokcmaaGreatDoor
open Go.RowKit Go.Shelf
attribute [local go_sem] Oper.semAt_some fw0 fw1 fw2
theorem info98c : (Tryz.prog.info? 158).map (fun i => (i.zero, i.size, i.bytes)) = some (some (.agg #[.string ⟨#[]⟩, .int .i64 0, .string ⟨#[]⟩, .int .i64 0, .bool false, .int .i64 0, .string ⟨#[]⟩, .slice none 0 0, .slice none 0 0, .slice none 0 0, .slice none 0 0]), 11, 176) := by kernel_rfl
set_option maxRecDepth 100000 in
set_option maxHeartbeats 8000000 in
theorem commasP_any {w : World} {b : Nat} {p : Option Addr} {c : Nat} {ws : List Wd} {s : PS} (H : Ps w b p c ws s) (hz : Wz ws) (F : PS → (ByteArray × Et) × PS) (hF : ∀ u, u.at' < ws.length → Pk 0 0 ws u (F u).2)
    (kb : ∀ W u, Ps W b p c ws u → Pk 0 0 ws s u → Calls Tryz.prog 199 #[.pointer (some ⟨b, 0, none⟩)] W fun r w' => ∃ v d, r = .returned v ∧ v = .agg d.toArray ∧ EFld w' (fun k => W.heap.size ≤ k) (F u).1 d ∧ Ps w' b p c ws (F u).2 ∧ Onl b W w') :
    Calls Tryz.prog 122 #[.pointer (some ⟨b, 0, none⟩), .func (.func 199) #[.pointer (some ⟨b, 0, none⟩)] #[]] w fun r w' => ∃ v, r = .returned v ∧ Gl EFld 158 11 w w' b p c ws v (comF ws F 33 [] s).1 (comF ws F 33 [] s).2 := by
  obtain ⟨V, hV⟩ : ∃ V, comF ws F 33 [] s = V := ⟨_, rfl⟩
  rw [hV]
  have HV : Hid (comF ws F 33 [] s = V ∧ Ps w b p c ws s) := ⟨hV, H⟩
  have HF : Hid (∀ u, u.at' < ws.length → Pk 0 0 ws u (F u).2) := hF
  clear H hV hF
  obtain ⟨i0, hi, hz0, hz1, hz2⟩ := info_parts info98c
  go_enter Tryz.func122, Tryz.ntmps122
  go_wp2_with fail
  go_loopw [5] (fun c5 wr => ∃ n l t, (n + l.length = 33 ∧ 0 < n) ∧ (∃ q k, c5 = .slice q l.length k) ∧ Hid (Gl EFld 158 11 w wr b p c ws c5 l t ∧ comF ws F n l t = V ∧ Pk 0 0 ws s t)) (fun c5 _ => 33 - lenOf c5)
  case atStart =>
    refine ⟨33, [], s, ⟨rfl, by decide⟩, ⟨none, 0, rfl⟩, ?_⟩
    have hh : Gl EFld 158 11 w w b p c ws (.slice none 0 0) [] s ∧ comF ws F 33 [] s = V ∧ Pk 0 0 ws s s := ⟨Gl.start _ _ _ HV.out.2, HV.out.1, Pk.refl HV.out.2.lt⟩
    exact hh
  case round =>
    obtain ⟨n, l, t, ⟨hn, hn0⟩, ⟨q5, k5, rfl⟩, hh⟩ := hrel
    obtain ⟨G, hlo, hpk⟩ := hh.out
    by_cases h32 : l.length = 32
    · obtain rfl : n = 1 := by omega
      have hlo2 : ([], failP ws t 3) = V := by
        unfold comF at hlo
        rw [if_pos h32] at hlo
        exact hlo
      have kf := fail_any G.ps 3
      have HG : Hid (Gl EFld 158 11 w wr b p c ws (.slice q5 l.length k5) l t) := G
      have h32' : (l.length : Int) = 32 := by omega
      subst hlo2
      clear hlo G hpk hh h32 HV
      go_wp2_with fail
      refine kf.mono ?_
      rintro r w2 ⟨rfl, hP2, hO2⟩
      have HG2 : Hid (Ps w2 b p c ws (failP ws t 3) ∧ Onl b wr w2) := ⟨hP2, hO2⟩
      clear kf hP2 hO2
      go_wp2
      go_ret
      exact ⟨_, rfl, ⟨[], World.ownsRow_nil _ _ _ _, rfl⟩, HG.out.onl.trans HG2.out.2, HG2.out.1, HG.out.lb, HG.out.old⟩
    · obtain ⟨m, rfl⟩ : ∃ m, n = m + 1 := ⟨n - 1, by omega⟩
      unfold comF at hlo
      rw [if_neg h32] at hlo
      have h32' : ¬ (l.length : Int) = 32 := by omega
      have kb1 := kb wr t G.ps hpk
      have hpk2 := hpk.trans (HF.out t G.ps.lt)
      obtain ⟨X, hX⟩ : ∃ X, F t = X := ⟨_, rfl⟩
      rw [hX] at kb1 hlo hpk2
      have HG : Hid (Gl EFld 158 11 w wr b p c ws (.slice q5 l.length k5) l t ∧ (if isP (wAt ws X.2.at') 6 [44] = true then comF ws F m (l ++ [X.1]) (takeP X.2) else (l ++ [X.1], X.2)) = V ∧ Pk 0 0 ws s X.2) := ⟨G, hlo, hpk2⟩
      have hlw : l.length ≤ 32 := by omega
      clear hlo G hpk hpk2 hh hX HV h32
      go_wp2_with fail
      refine kb1.mono ?_
      rintro r w2 ⟨v2, d2, rfl, hv2, hE2, hP2, hO2⟩
      have G2 := HG.out.1.calls eFld hO2 hP2
      obtain ⟨L, hown, hels⟩ := G2.own
      have hsz := G2.onl.size
      have hszr := HG.out.1.onl.size
      obtain ⟨e2, he2, dd, hdd⟩ := id hE2
      obtain ⟨R, hR⟩ := hdd.row
      have hd2 : d2 = [.string X.1.1, .int .i64 R.k, .string R.s, .int .i64 R.vk, .bool R.vb, .int .i64 R.vn, .string R.vs, .slice none 0 0, .slice none 0 0, .slice R.kp R.n R.kc, .slice R.np R.m R.nc] := by
        unfold rowX at hR
        injection hR with hR
        have := congrArg Array.toList hR
        rw [he2]
        simpa using this
      subst hd2
      subst hv2
      clear hdd hR he2
      have HG2 : Hid (Gl EFld 158 11 w w2 b p c ws (.slice q5 l.length k5) l X.2 ∧ Els EFld w2 (fun k => w.heap.size ≤ k ∧ (Value.slice q5 l.length k5).ownBlock ≠ some k) l L ∧ EFld w2 (fun k => w.heap.size ≤ k ∧ (Value.slice q5 l.length k5).ownBlock ≠ some k) X.1 [.string X.1.1, .int .i64 R.k, .string R.s, .int .i64 R.vk, .bool R.vb, .int .i64 R.vn, .string R.vs, .slice none 0 0, .slice none 0 0, .slice R.kp R.n R.kc, .slice R.np R.m R.nc]) := by
        refine ⟨G2, hels, eFld.imp (fun k hk hl => ⟨by omega, fun e => ?_⟩) hE2⟩
        obtain ⟨L1, hown1, -⟩ := HG.out.1.own
        have := (hown1.lt k e).2
        omega
      clear kb1 hP2 hO2 G2 hels hE2
      go_wp2_with (at_builtin; refine wpList_append_own_at _ rfl _ _ 155 rfl w.heap.size 158 i0 (.agg #[.string ⟨#[]⟩, .int .i64 0, .string ⟨#[]⟩, .int .i64 0, .bool false, .int .i64 0, .string ⟨#[]⟩, .slice none 0 0, .slice none 0 0, .slice none 0 0, .slice none 0 0]) 11 176 Tryz.underlying155 hi hz0 hz1 hz2 rfl (by decide) _ _ _ rfl (hown.alloc _) ⟨w2.heap.size, 0, none⟩ 1 1 [.string X.1.1, .int .i64 R.k, .string R.s, .int .i64 R.vk, .bool R.vb, .int .i64 R.vn, .string R.vs, .slice none 0 0, .slice none 0 0, .slice R.kp R.n R.kc, .slice R.np R.m R.nc] rfl rfl ?c1 ?c2 ?c3 ?c4 ?c5 ?_)
      case c1 => exact World.news_of_block (heap_alloc_new w2 _)
      case c2 => exact eFld.ones HG2.out.2.2
      case c3 => unfold maxLen; omega
      case c4 => omega
      case c5 => simp; omega
      intro v' w5 hown5 hgr5 _ hat5
      have G5 : Gl EFld 158 11 w w5 b p c ws v' (l ++ [X.1]) X.2 := HG2.out.1.more eFld HG2.out.2.1 (x := X.1) (d := [.string X.1.1, .int .i64 R.k, .string R.s, .int .i64 R.vk, .bool R.vb, .int .i64 R.vn, .string R.vs, .slice none 0 0, .slice none 0 0, .slice R.kp R.n R.kc, .slice R.np R.m R.nc]) HG2.out.2.2 rfl hown5 hgr5 hat5
      have kt := tookSign_any G5.ps hz ⟨#[44]⟩
      have hI : isW (wAt ws X.2.at') 6 ⟨#[44]⟩ = isP (wAt ws X.2.at') 6 [44] := isW_isP _ _ _
      unfold tookP at kt
      rw [hI] at kt
      obtain ⟨q6, k6, rfl⟩ := own_len hown5
      have HG5 : Hid (Gl EFld 158 11 w w5 b p c ws (.slice q6 (l.length + 1) k6) (l ++ [X.1]) X.2) := G5
      clear hown hown5 hgr5 hat5 G5 hI HG2
      by_cases hy : isP (wAt ws X.2.at') 6 [44] = true
      · rw [hy, if_pos rfl] at kt
        have hlo : comF ws F m (l ++ [X.1]) (takeP X.2) = V := by
          have := HG.out.2.1
          rw [if_pos hy] at this
          exact this
        have hpk3 := (HG.out.2.2.is hz hy (by decide)).less
        have H3 : Hid (comF ws F m (l ++ [X.1]) (takeP X.2) = V ∧ Pk 0 0 ws s (takeP X.2)) := ⟨hlo, hpk3⟩
        clear hlo hpk3 hy HG
        go_wp2_with fail
        refine kt.mono ?_
        rintro r w6 ⟨rfl, hP6, hO6⟩
        have G6 := HG5.out.calls eFld hO6 hP6
        have HG6 : Hid (Gl EFld 158 11 w w6 b p c ws (.slice q6 (l.length + 1) k6) (l ++ [X.1]) (takeP X.2)) := G6
        clear kt hP6 hO6 G6 HG5
        go_wp2_with fail
        go_roundw
        case rel =>
          refine ⟨m, l ++ [X.1], takeP X.2, ⟨by simp; omega, by omega⟩, ⟨q6, k6, by simp⟩, ?_⟩
          have hh : Gl EFld 158 11 w w6 b p c ws (.slice q6 (l.length + 1) k6) (l ++ [X.1]) (takeP X.2) ∧ comF ws F m (l ++ [X.1]) (takeP X.2) = V ∧ Pk 0 0 ws s (takeP X.2) := ⟨HG6.out, H3.out.1, H3.out.2⟩
          exact hh
        case measure =>
          simp only [lenOf]
          omega
      · have hf : isP (wAt ws X.2.at') 6 [44] = false := by simpa using hy
        rw [hf, if_neg Bool.false_ne_true] at kt
        have hlo : (l ++ [X.1], X.2) = V := by
          have := HG.out.2.1
          rw [if_neg hy] at this
          exact this
        subst hlo
        clear hy hf HG
        go_wp2_with fail
        refine kt.mono ?_
        rintro r w6 ⟨rfl, hP6, hO6⟩
        have G6 := HG5.out.calls eFld hO6 hP6
        have HG6 : Hid (Gl EFld 158 11 w w6 b p c ws (.slice q6 (l.length + 1) k6) (l ++ [X.1]) X.2) := G6
        clear kt hP6 hO6 G6 HG5
        go_wp2
        go_ret
        exact ⟨_, rfl, HG6.out⟩
end Go.Proofs.YtfemippjaokcmaaGreatDoor
