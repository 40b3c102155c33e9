/- A value that is not too great (Cut), of any value. -/
import Derived.Test.YtjmjlijmeahmfaaCutb
import Derived.Test.YtjmjlijmeahmfaaCutc
import Derived.Test.YtjmjlijmeahmfaaCutd
import Derived.Test.YtjmjlijmeahmfaaCute
namespace Go.Proofs.Ytjmjlijmeahmfaa
open Go.RowKit
theorem cut_all (t : Tr) : CutC t := by
  induction t with
  | no => exact fun _ _ _ _ _ hL => hL.no.elim
  | mk k b n s m f q g ih =>
    intro B w x deep wide hL hB hw hd
    rw [cutT]
    by_cases h11 : 1100 < s.size
    · rw [if_pos h11]
      by_cases hd0 : deep = 0
      · rw [if_pos hd0]
        by_cases hmw : wide < m
        · exact cut_0wx deep wide hL hB hw hd (by omega) (by omega) hd0 ih
        · exact cut_0mx deep wide hL hB hw hd (by omega) (by omega) hd0 ih
      · rw [if_neg hd0]
        by_cases hmw : wide < m
        · rw [show min m wide = wide by omega]
          exact cut_wx deep wide hL hB hw hd (by omega) (by omega) (by omega) ih
        · rw [show min m wide = m by omega]
          exact cut_mx deep wide hL hB hw hd (by omega) (by omega) (by omega) ih
    · rw [if_neg h11]
      by_cases hd0 : deep = 0
      · rw [if_pos hd0]
        by_cases hmw : wide < m
        · exact cut_0ws deep wide hL hB hw hd (by omega) (by omega) hd0 ih
        · exact cut_0ms deep wide hL hB hw hd (by omega) (by omega) hd0 ih
      · rw [if_neg hd0]
        by_cases hmw : wide < m
        · rw [show min m wide = wide by omega]
          exact cut_ws deep wide hL hB hw hd (by omega) (by omega) (by omega) ih
        · rw [show min m wide = m by omega]
          exact cut_ms deep wide hL hB hw hd (by omega) (by omega) (by omega) ih
end Go.Proofs.Ytjmjlijmeahmfaa
