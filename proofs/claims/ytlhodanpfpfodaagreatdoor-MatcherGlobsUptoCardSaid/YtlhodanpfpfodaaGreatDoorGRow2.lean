/-
  Rows of any kind: append at a step of a region that draws its order; a row that is told from what has turned. Conditions: those that each theorem names.
-/
import Derived.Test.YtlhodanpfpfodaaGreatDoorTxt
import Derived.Deep.AppendLies
import Derived.Deep.RegionLaw
namespace Go.Icz
open Go.RowKit
namespace Kd
variable {α : Type} {K : Kd α}
theorem Own.touch {S : Nat → Prop} {w w' : World} {B : Nat} {v : Value} {l : List α} (h : K.Own w B v l) (k : Tch S w w') (hS : ∀ j, S j → v.ownBlock ≠ some j) : K.Own w' B v l := by
  have hlt := fun j hj => (h.lt j hj).2
  refine ⟨h.1, ?_⟩
  rcases h.2 with h | ⟨g, cap, cur, hv, hg, hb, r⟩
  · exact .inl h
  · have hob : v.ownBlock = some g := by rw [hv]; rfl
    exact .inr ⟨g, cap, cur, hv, hg, (k.block g (hlt g hob) (fun hs => hS g hs hob)).trans hb, r⟩
/-- 'append(v, x)' at a step of a region that draws its order, x laid in a block of its own. -/
theorem step_app1 {P : Program} {ops : Array Oper} {o : Oper} {a : Act} {Kn : Act → World → Prop} {Q : Exit → Act → World → Prop} {E : Prop} {w : World} (hgd : o.guard = none) (s x : Operand) (t : TypeId)
    (ho : o.op = .call { callee := .builtin .append, args := #[s, x], argTypes := #[t, t] }) (ht : P.underlying t = some (.slice K.e)) {zv : Value} {by' : Nat} (info : (P.info? K.e).map (fun i => (i.zero, i.size, i.bytes)) = some (some zv, K.z, by')) (hzs : zv.cells.size = K.z)
    (B : Nat) (v : Value) (l : List α) (b : α) (hs : a.eval s = v) (hown : K.Own w B v l) (n : Nat) (hblk : w.heap[n]? = some (.cells (K.enc b).toArray K.e (0, 0))) (hx : a.eval x = .slice (some ⟨n, 0, none⟩) 1 1)
    (hmax : l.length + 1 ≤ maxLen) (hlen : (l.length + 1) * by' ≤ 140737488355328) (hB : B ≤ w.heap.size)
    (h : ∀ v' w', K.Own w' B v' (l ++ [b]) → Below B w w' → w.grownBy w' v.ownBlock → Kn (a.put o.dst v') w') :
    if Region.wanted o (yielded ops a.tmps) = true then Oper.wp P o a w Kn Q else E := by
  obtain ⟨i0, hi, hz0, hz1, hz2⟩ := info_parts info
  refine step_append_lies w hgd s x t ho B K.e i0 zv K.z by' ht hi hz0 hz1 hz2 hzs K.pos v l.length (K.cells l) hs hown ⟨n, 0, none⟩ 1 1 (K.enc b) hx ?_ ?_ ?_ (by omega) hmax hlen hB _ rfl ?_
  · rw [K.len, Nat.one_mul]
  · exact World.news_of_block hblk
  · exact fun u hu => K.one b u hu
  · intro g cap w' h1 h2 h3 h4
    refine h _ w' ?_ ((Below.refl B w).grown h2 hB (fun k hk => (World.ownsRow.lt hown k hk).1)) h2
    unfold Own
    rw [cells_app, List.length_append]
    have e : K.cells [b] = K.enc b := by simp [cells]
    rw [e]
    exact h1
end Kd
end Go.Icz
