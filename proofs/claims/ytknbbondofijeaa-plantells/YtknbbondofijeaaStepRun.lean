/-
  An append whose run is known, as a step of a region that draws its order. Slices that others may be written beside.
-/
import Derived.Test.YtknbbondofijeaaObjOwn
import Derived.Deep.AppendLies
import Derived.Deep.RegionHeld3
namespace Go.Proofs.Ytknbbondofijeaa
open Go.RowKit

theorem step_append_run {P : Program} {w : World} {ops : Array Oper} {o : Oper} {a : Act} {K : Act → World → Prop} {Q : Exit → Act → World → Prop} {E : Prop} (hgd : o.guard = none) (s x : Operand) (t : TypeId)
    (ho : o.op = .call { callee := .builtin .append, args := #[s, x], argTypes := #[t, t] }) {v src v' : Value} {w' : World} (hs : a.eval s = v) (hx : a.eval x = src)
    (hrun : Sem.run P (Builtin.append_ #[t, t] o.type #[v, src]) w = .ok v' w') (h : K (a.put o.dst v') w') :
    if Region.wanted o (yielded ops a.tmps) = true then Oper.wp P o a w K Q else E := by
  have hw : Region.wanted o (yielded ops a.tmps) = true := by simp [Region.wanted, hgd]
  rw [if_pos hw]
  unfold Oper.wp execOp
  simp only [ho, resolve, invoke, builtin, Sem.run_bind, Sem.run_pure, Result.andThen_ok, List.map_toArray, List.map_cons, List.map_nil, hs, hx, hrun]
  exact h

/-- The slice's row, if it has one, is another block than 'g'. -/
def Off (g : Option Nat) (A : Option Addr) (n : Nat) : Prop := ∀ b off, 0 < n → A = some ⟨b, off, none⟩ → g ≠ some b
theorem Off.of_high {lo n : Nat} {g : Option Nat} {A : Option Addr} (h : High lo A n) (hg : ∀ b, g = some b → b < lo) : Off g A n := fun b off hn hA e => by
  have := h b off hn hA
  have := hg b e
  omega
theorem Arr.keepOff {k : IntKind} {w w' : World} {B n : Nat} {A : Option Addr} {zs : List Int} {g : Option Nat} (h : Arr k w B A n zs) (ho : Off g A n) (hk : ∀ i, i < B → g ≠ some i → w'.heap[i]? = w.heap[i]?) : Arr k w' B A n zs :=
  ⟨h.1, h.2.1, fun hn => by
    obtain ⟨b, off, e, hb, hc⟩ := h.2.2 hn
    refine ⟨b, off, e, hb, fun j hj => ?_⟩
    have := hk b hb (ho b off hn e)
    rw [← hc j hj]
    simp [World.cell?, this]⟩
theorem ObV.keepOff {w w' : World} {lo hi : Nat} {r : Raw} {o : Ob} {g : Option Nat} (h : ObV w lo hi r o) (h1 : Off g r.ra r.rn) (h2 : Off g r.ba r.bn) (hk : ∀ i, i < hi → g ≠ some i → w'.heap[i]? = w.heap[i]?) : ObV w' lo hi r o :=
  ⟨h.tag, h.free, h.rcap, h.bcap, h.refs.keepOff h1 hk, h.rhigh, h.body.keepOff h2 hk, h.bhigh⟩
/-- A row that lies below 'hi' is no block from there on. -/
theorem Arr.off {k : IntKind} {w : World} {B n : Nat} {A : Option Addr} {zs : List Int} (h : Arr k w B A n zs) {g : Option Nat} (hg : ∀ b, g = some b → B ≤ b) : Off g A n := fun b off hn hA e => by
  obtain ⟨b', off', hA', hb, _⟩ := h.2.2 hn
  rw [hA] at hA'
  injection hA' with hA'
  injection hA' with e1
  have := hg b e
  omega
end Go.Proofs.Ytknbbondofijeaa
