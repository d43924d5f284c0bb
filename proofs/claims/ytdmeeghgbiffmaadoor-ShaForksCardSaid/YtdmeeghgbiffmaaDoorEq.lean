/- A law of no program: '==' of arrays under a guard. -/
import Derived.Test.YtdmeeghgbiffmaaDoorT15
namespace Go.Proofs.YtdmeeghgbiffmaaDoor
open Go

theorem wpList_eql_wanted {P : Program} {ops : Array Oper} {rest : List Oper} {o : Oper} {a : Act} {w : World} {Q : Exit → Act → World → Prop} (hgd : Region.wanted o (yielded ops a.tmps) = true) (x y : Operand) (t t2 : TypeId) (ho : o.op = .binOp .eql t x y t2)
    (R S : Array Value) (hx : a.eval x = .agg R) (hy : a.eval y = .agg S) (hg : P.eqGuardType P.depth t = false) {b : Bool} (he : (Op.equalIn 10000 t (.agg R) (.agg S)).run P w = .ok b w) (h : wpList P ops Q rest (a.put o.dst (.bool b)) w) : wpList P ops Q (o :: rest) a w :=
  wpList_step fun K hK => by
    rw [if_pos hgd]
    unfold Oper.wp execOp
    have h1 : (eqGuard .eql t x y (.agg R) (.agg S)).run P w = .ok () w := by
      simp [eqGuard, hg]
    have h2 : (binOp .eql t (.agg R) (.agg S)).run P w = .ok (.bool b) w := by
      simp only [binOp, Op.equal, Sem.run_bind]
      rw [show (Op.equalIn Op.maxDepth t (.agg R) (.agg S)).run P w = .ok b w from he]
      rfl
    simp only [ho, hx, hy, Sem.run_bind, h1, h2, Result.andThen]
    exact hK _ _ h
theorem eqg31 : Tryd.prog.eqGuardType Tryd.prog.depth 31 = false := by kernel_rfl
end Go.Proofs.YtdmeeghgbiffmaaDoor
