/-
  TwinTells: the law's own closure 'add', and what the walk holds of memory.
-/
import Derived.Test.YtdieokpfkojoiaaTwinN
import Derived.Test.YtdieokpfkojoiaaRefTwin
import Derived.Test.YtdieokpfkojoiaaRefSameR
namespace Go.Proofs.Ytdieokpfkojoiaa
open Go.RowKit

theorem step_append_runR {P : Program} {w : World} {ops : Array Oper} {o : Oper} {a : Act} {K : Act → World → Prop} {Q : Exit → Act → World → Prop} {E : Prop} (hgd : o.guard = none) (s x : Operand) (t : TypeId)
    (ho : o.op = .call { callee := .builtin .append, args := #[s, x], argTypes := #[t, t] }) {v src v' : Value} {w' : World} (hs : a.eval s = v) (hx : a.eval x = src)
    (hrun : Sem.run P (Builtin.append_ #[t, t] o.type #[v, src]) w = .ok v' w') (h : K (a.put o.dst v') w') :
    if Region.wanted o (yielded ops a.tmps) = true then Oper.wp P o a w K Q else E := by
  have hw : Region.wanted o (yielded ops a.tmps) = true := by simp [Region.wanted, hgd]
  rw [if_pos hw]
  unfold Oper.wp execOp
  simp only [ho, resolve, invoke, builtin, Sem.run_bind, Sem.run_pure, Result.andThen_ok, List.map_toArray, List.map_cons, List.map_nil, hs, hx, hrun]
  exact h
theorem below_of_drewNR {B : Nat} {a w : World} {q : Nat} (h : Below B (a.drewN q) w) : Below B a w := ⟨h.os, h.tape, h.output, h.size, h.block⟩

set_option maxHeartbeats 400000 in
theorem add_yes (g33 : Nat) (p1 p2 p3 p4 p5 : Value) (w : World) (h33 : Box w g33 4 #[.bool true]) :
    Calls Try.prog 17 #[.pointer (some ⟨g33, 0, none⟩), p1, p2, p3, p4, p5] w fun e w' => (∃ r, e = .returned r) ∧ w = w' := by
  have c0 : w.cell? ⟨g33, 0, none⟩ = some (.bool true) := h33.cell 0
  clear h33
  go_enter Try.func17, Try.ntmps17
  go_wp2
  refine bodyPost_end (v := .tuple #[]) (by simp [results, Try.results17, go_sem]) rfl ⟨⟨_, rfl⟩, rfl⟩

end Go.Proofs.Ytdieokpfkojoiaa
