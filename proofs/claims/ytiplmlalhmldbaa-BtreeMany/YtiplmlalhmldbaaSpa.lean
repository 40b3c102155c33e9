/- The keys of a node of any depth that are in a span, as they are handed on; that these are all its keys in the span. -/
import Derived.Test.YtiplmlalhmldbaaSin
import Derived.Test.YtiplmlalhmldbaaFlt
namespace Go.Proofs.Ytiplmlalhmldbaa
open Go.RowKit Go.Shelf
def spT : (h : Nat) → Nd h → ByteArray → ByteArray → List Im
  | 0, t, lo, hi => spanL (its 0 t) lo hi (posK (its 0 t) lo)
  | h + 1, t, lo, hi => spI t.1 (fun i => spT h (t.2.getD i (dflt h)) lo hi) lo hi (posK t.1 lo) (t.1.length - posK t.1 lo)
theorem span_seq : ∀ {h : Nat} {t : Nd h} (lo hi : ByteArray) {a b : Value} {bn bs : Nat} {w0 w : World}, Ok h t → Lies w0 h t (.agg #[a, b]) → Below w0.heap.size w0 w → w.heap[bn]? = some (.cells #[a, b] 59 (0, 0)) → w.heap[bs]? = some (.cells #[.string lo, .string hi] 24 (0, 0)) →
    SeqB Try.prog 38 #[.pointer (some ⟨bn, 0, none⟩), .pointer (some ⟨bs, 0, none⟩)] (fun x : Im => #[.string x.1, .string x.2]) (spT h t lo hi) (fun k => k < w0.heap.size ∨ k = bn ∨ k = bs) w
  | 0, t, lo, hi, a, b, bn, bs, w0, w, ok, H, hb, hn, hs => by
    obtain ⟨p, c, q, d, e, hS, -⟩ := H
    obtain ⟨rfl, rfl⟩ := agg2 e
    exact span0_seq (its 0 t) ok.1 ok.2 lo hi p c q d bn bs w0 w hS hb hn hs
  | h + 1, t, lo, hi, a, b, bn, bs, w0, w, ok, H, hb, hn, hs => by
    obtain ⟨p, c, q, d, L, e, hS, hQ, hL⟩ := H.open
    obtain ⟨rfl, rfl⟩ := agg2 e
    refine span1_seq t.1 ok.1 ok.2.1 t.2 ok.2.2.1 (fun i => spT h (t.2.getD i (dflt h)) lo hi) lo hi p c q d bn bs w0 w hS L hQ hb (fun i hi' bn bs w hb hn hs => ?_) (fun i hi' => ?_) hn hs
    · exact span_seq lo hi (ok.2.2.2 i hi').1 (hL.2 i hi') hb hn hs
    · obtain ⟨p, c, q, d, _, e, -, -⟩ := (hL.2 i hi').form
      obtain ⟨h1, h2⟩ := agg2 e
      exact ⟨_, _, _, _, _, _, h1, h2⟩
end Go.Proofs.Ytiplmlalhmldbaa
