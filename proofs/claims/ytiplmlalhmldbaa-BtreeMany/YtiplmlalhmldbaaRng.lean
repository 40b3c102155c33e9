/- What is ranged over: span, Range of a tree and of none; keys.All. -/
import Derived.Test.YtiplmlalhmldbaaRse
import Derived.Test.YtiplmlalhmldbaaDee
import Derived.Deep.RegionLaw
namespace Go.Proofs.Ytiplmlalhmldbaa
open Go.RowKit Go.Shelf
set_option maxHeartbeats 1000000 in
theorem span_any (a b : Value) (ha : a.oneCell' = true) (hb : b.oneCell' = true) (p : Option Addr) (n c : Nat) (q : Option Addr) (m d : Nat) (ea : a = .slice p n c) (eb : b = .slice q m d) (lo hi : ByteArray) (w : World) :
    Calls Try.prog 31 #[.agg #[a, b], .agg #[.string lo, .string hi]] w fun e w' => e = .returned (.func (.func 38) #[] #[.pointer (some ⟨w.heap.size, 0, none⟩), .pointer (some ⟨w.heap.size + 1, 0, none⟩)]) ∧
      w' = (w.alloc (.cells #[a, b] 59)).alloc (.cells #[.string lo, .string hi] 24) := by
  subst ea eb
  go_enter Try.func31, Try.ntmps31
  go_wp2
  go_ret
  exact ⟨rfl, rfl⟩
/- What Range answers: the function, with a node and a span. -/
def Rgd (a b : Value) (lo hi : ByteArray) (w : World) (e : Ending) (w' : World) : Prop :=
  ∃ bn bs, e = .returned (.func (.func 38) #[] #[.pointer (some ⟨bn, 0, none⟩), .pointer (some ⟨bs, 0, none⟩)]) ∧ w.heap.size ≤ bn ∧ w.heap.size ≤ bs ∧
    w'.heap[bn]? = some (.cells #[a, b] 59 (0, 0)) ∧ w'.heap[bs]? = some (.cells #[.string lo, .string hi] 24 (0, 0)) ∧ Below w.heap.size w w'
theorem two_rows (w : World) (x y : Obj) : ((w.alloc x).alloc y).heap[w.heap.size]? = (w.alloc x).heap[w.heap.size]? ∧ ((w.alloc x).alloc y).heap[w.heap.size + 1]? = ((w.alloc x).alloc y).heap[(w.alloc x).heap.size]? :=
  ⟨Below.heap_alloc _ _ _ (by simp), by simp⟩
theorem span_rows (w : World) (x y : Array Value) (s t : TypeId) : ((w.alloc (.cells x s)).alloc (.cells y t)).heap[w.heap.size]? = some (.cells x s (0, 0)) ∧ ((w.alloc (.cells x s)).alloc (.cells y t)).heap[w.heap.size + 1]? = some (.cells y t (0, 0)) := by
  refine ⟨(two_rows _ _ _).1.trans (heap_alloc_new _ _), ?_⟩
  have := heap_alloc_new (w.alloc (.cells x s)) (.cells y t)
  simpa using this
set_option maxHeartbeats 2000000 in
theorem range_nil (lo hi : ByteArray) (w : World) : Calls Try.prog 21 #[.pointer none, .agg #[.string lo, .string hi]] w (Rgd (.slice none 0 0) (.slice none 0 0) lo hi w) := by
  have ks := fun W => span_any (.slice none 0 0) (.slice none 0 0) rfl rfl _ _ _ _ _ _ rfl rfl lo hi W
  obtain ⟨Po, hPo⟩ : ∃ Po, Po = Rgd (.slice none 0 0) (.slice none 0 0) lo hi w := ⟨_, rfl⟩
  rw [← hPo]
  have HP : Hid (Po = Rgd (.slice none 0 0) (.slice none 0 0) lo hi w) := hPo
  clear hPo
  go_enter Try.func21, Try.ntmps21
  go_wp2_with fail
  refine (ks _).mono ?_
  rintro e w1 ⟨rfl, hw1⟩
  go_wp2
  rw [HP.out]
  obtain ⟨h1, h2⟩ := span_rows (w.alloc (.cells #[.string lo, .string hi] 24)) #[.slice none 0 0, .slice none 0 0] #[.string lo, .string hi] 59 24
  rw [World.size_alloc] at h1 h2
  exact ⟨_, _, rfl, by omega, by omega, h1, h2, (((Below.refl _ w).alloc (Nat.le_refl _) _).alloc (by simp) _).alloc (by simp; omega) _⟩
set_option maxRecDepth 100000 in
set_option maxHeartbeats 2000000 in
theorem range_tree (p : Option Addr) (n c : Nat) (q : Option Addr) (m d : Nat) (z : Value) (b : Nat) (lo hi : ByteArray) (w : World) (hr : w.heap[b]? = some (.cells #[.slice p n c, .slice q m d, z] 61 (0, 0))) :
    Calls Try.prog 21 #[.pointer (some ⟨b, 0, none⟩), .agg #[.string lo, .string hi]] w (Rgd (.slice p n c) (.slice q m d) lo hi w) := by
  have ks := fun W => span_any (.slice p n c) (.slice q m d) rfl rfl _ _ _ _ _ _ rfl rfl lo hi W
  obtain ⟨Po, hPo⟩ : ∃ Po, Po = Rgd (.slice p n c) (.slice q m d) lo hi w := ⟨_, rfl⟩
  rw [← hPo]
  have HP : Hid (Po = Rgd (.slice p n c) (.slice q m d) lo hi w) := hPo
  clear hPo
  have hr1 := (Below.heap_alloc w (.cells #[.string lo, .string hi] 24) _ (lt_of_row hr)).trans hr
  have c0 := cell_of_row _ _ 0 _ _ _ hr1
  have c1 := cell_of_row _ _ 1 _ _ _ hr1
  go_enter Try.func21, Try.ntmps21
  go_wp2
  go_region_law (go_simp; go_at_call 31; refine (ks _).mono ?_; rintro e w1 ⟨rfl, hw1⟩; dsimp only)
  all_goals
    go_wp2
    go_ret
    rw [HP.out]
    obtain ⟨h1, h2⟩ := span_rows (w.alloc (.cells #[.string lo, .string hi] 24)) #[.slice p n c, .slice q m d] #[.string lo, .string hi] 59 24
    rw [World.size_alloc] at h1 h2
    exact ⟨_, _, rfl, by omega, by omega, h1, h2, ((((Below.refl _ w).alloc (Nat.le_refl _) _).alloc (by simp) _).alloc (by simp; omega) _).drew⟩
set_option maxHeartbeats 1000000 in
theorem kall_any (w : World) : Calls Try.prog 30 #[] w fun e w' => e = .returned (.agg #[.string ⟨#[]⟩, .string ⟨#[]⟩]) ∧ Below w.heap.size w w' := by
  go_enter Try.func30, Try.ntmps30
  go_wp2
  refine bodyPost_ret (v := .agg #[.string ⟨#[]⟩, .string ⟨#[]⟩]) (by simp [results, Try.results30, go_sem]) rfl ⟨rfl, (Below.refl _ w).alloc (Nat.le_refl _) _⟩
end Go.Proofs.Ytiplmlalhmldbaa
