/-
  Features and Predict of the program.
-/
import Derived.Test.YtkiddmbenepfjaaGreatFea
namespace Go.Proofs.YtkiddmbenepfjaaGreat.Md
set_option maxRecDepth 20000
open Go.RowKit
open Go.Proofs.YtkiddmbenepfjaaGreat.Li (ret_bool ret_int btw below_none)
open Go.Proofs.YtkiddmbenepfjaaGreat.Tb (lets Row RowIs)
open Go.Proofs.YtkiddmbenepfjaaGreat.Tm (IsT szT)
open Go.Proofs.YtkiddmbenepfjaaGreat.Kt (Kv IsK ksz)
open Go.Proofs.YtkiddmbenepfjaaGreat.Sv (new1 new2 Wr wr2)
open Go.Proofs.YtkiddmbenepfjaaGreat.Sw (sm)
set_option linter.unusedVariables false
def pred (m : M) (r : Row) : Int := if fits m r = true then sm m.ts (pad (fl m r)) m.base else 0
theorem pred_no {m : M} {r : Row} (h : fits m r = false) : pred m r = 0 := by unfold pred; rw [if_neg (by rw [h]; simp)]
theorem pred_yes {m : M} {r : Row} (h : fits m r = true) : pred m r = sm m.ts (pad (fl m r)) m.base := by unfold pred; rw [if_pos h]
theorem sz_ts {m : M} (h : m.sz ≤ 1048576) : m.ts.length + szT m.ts ≤ 1048576 := by unfold M.sz at h; omega
end Go.Proofs.YtkiddmbenepfjaaGreat.Md
