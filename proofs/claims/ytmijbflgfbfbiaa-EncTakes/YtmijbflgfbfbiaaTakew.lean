/- The law EncTakes, called, of any text: the two ways together. -/
import Derived.Test.YtmijbflgfbfbiaaTakes
namespace Go.Proofs.Ytmijbflgfbfbiaa
open Go.RowKit
theorem law_takes (s : ByteArray) (w : World) : Calls Try.prog 5 #[.string s] w fun r w' => r = .returned (.bool true) ∧ Below w.heap.size w w' := by
  have hfe := fun W => few_any s W
  have ht := fewB_size s
  obtain ⟨t, hfew⟩ : ∃ t, fewB s = t := ⟨_, rfl⟩
  rw [hfew] at ht
  simp only [hfew] at hfe
  have hui := fun (W : World) (g : Nat) (h : Cur W g t ((0 : Nat) : Int) 0) => uint_at h (Nat.zero_le _) (by omega)
  have hru := fun (W : World) => ruint_at t 0 0 (Nat.zero_le _) (by omega) W
  have hA : uintA t 0 0 = ⟨(tkA t 0).n, 0 + (tkA t 0).sz, (tkA t 0).er⟩ := if_pos rfl
  have hbd := tkA_bound (s := t) (o := 0) (Nat.zero_le _)
  by_cases he : (tkA t 0).er = 0
  · have hpt := put_take t.data.toList (by have : tkA t 0 = tk 0 0 t.data.toList := by unfold tkA; rw [List.drop_zero]
                                           rw [← this]; exact he)
    have e1 : tk 0 0 t.data.toList = tkA t 0 := by unfold tkA; rw [List.drop_zero]
    rw [e1] at hpt
    simp only [hA, he, Nat.zero_add] at hui hru
    refine takes_ok s t (tkA t 0).n (tkA t 0).sz ⟨(put (tkA t 0).n).toArray⟩ (by omega) ?_ (fun W => put_any _ hbd.1 W) hfe hui hru w
    apply ByteArray.ext
    apply Array.toList_inj.mp
    rw [Lib.extract_data, List.drop_zero, Nat.sub_zero, hpt.2]
  · have hz := (tkA_err he).2
    simp only [hA, hz, Nat.zero_add] at hui hru
    exact takes_bad s t (tkA t 0).n ((0 : Nat) : Int) (tkA t 0).er he rfl hfe hui hru w
end Go.Proofs.Ytmijbflgfbfbiaa
