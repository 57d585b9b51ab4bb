/- a[i] of an array that is a value. No program is named here. -/
import Derived.Test.YtoajaacdhkknfaaDoorK0
import Derived.Laws.EntriesVeiled
namespace Go.Proofs.Kit
open Go.RowKit
theorem run_index_struct {P : Program} {t e : TypeId} {n sz : Nat} {fs : Array Field} {i : TypeInfo} (cs : Array Value) (k : Nat) (w : World) (h : P.underlying t = some (.array n e)) (he : P.underlying e = some (.struct fs)) (hi : P.info? e = some i) (hs : i.size = sz) (hk : k < n) :
    (Instr.index t (.agg cs) (.int .i64 (k : Int))).run P w = .ok (.agg (cs.extract (k * sz) (k * sz + sz))) w := by
  simp [Instr.index, run_underlying h, asIntOf, part, isAgg, run_underlying he, sizeOf, typeInfo, hi, hs, go_sem]
  omega
theorem run_index_plain {P : Program} {t e e' : TypeId} {n : Nat} {i : TypeInfo} (cs : Array Value) (k : Nat) (v : Value) (w : World) (h : P.underlying t = some (.array n e)) (he : P.underlying e = some (.slice e')) (hi : P.info? e = some i) (hs : i.size = 1) (hk : k < n) (hv : cs[k]? = some v) :
    (Instr.index t (.agg cs) (.int .i64 (k : Int))).run P w = .ok v w := by
  simp [Instr.index, run_underlying h, asIntOf, part, isAgg, run_underlying he, sizeOf, typeInfo, hi, hs, hv, go_sem]
  omega
end Go.Proofs.Kit

