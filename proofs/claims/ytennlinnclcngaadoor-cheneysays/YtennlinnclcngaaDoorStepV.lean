/- A call of a function value, as one step of a region that draws. No word of any program is in this text. -/
import Derived.Test.YtennlinnclcngaaDoorStepL
namespace Go.Proofs.YtennlinnclcngaaDoor
open Go.RowKit Go.Sort

theorem step_callv {P : Program} {ops : Array Oper} {o : Oper} {a : Act} {w : World} {K : Act → World → Prop} {Q : Exit → Act → World → Prop} {E : Prop} (hgd : o.guard = none) (c : Operand) (xs : Array Operand) (ts : Array TypeId)
    (ho : o.op = .call { callee := .value c, args := xs, argTypes := ts }) (f : Nat) (caps : Array Value) (hf : a.eval c = .func (.func f) #[] caps) (vals all : Array Value) (hv : xs.map a.eval = vals) (hall : vals ++ caps = all)
    (hen : ∀ w, (callFunc f all).run P w = .ok (.enter f all) w) {R : Ending → World → Prop} (hc : Calls P f all w R)
    (h : ∀ e w', R e w' → ∃ v, e = .returned v ∧ K (a.put o.dst v) w') : if Region.wanted o (yielded ops a.tmps) = true then Oper.wp P o a w K Q else E := by
  rw [if_pos (show Region.wanted o (yielded ops a.tmps) = true by simp [Region.wanted, hgd])]
  unfold Oper.wp
  have hrun : (execOp a.eval o).run P w = .ok (.enter f all) w := by
    have e : (#[] : Array Value) ++ vals ++ caps = all := by rw [← hall]; simp
    simp only [execOp, ho, resolve, hf, hv, Deferred.ofValue, invoke, Sem.run_bind, Sem.run_pure, Result.andThen_ok, e, hen]
  rw [hrun, Oper.upon_enter]
  exact hc.mono fun e w' hr => by
    obtain ⟨v, rfl, hk⟩ := h e w' hr
    exact hk
end Go.Proofs.YtennlinnclcngaaDoor
