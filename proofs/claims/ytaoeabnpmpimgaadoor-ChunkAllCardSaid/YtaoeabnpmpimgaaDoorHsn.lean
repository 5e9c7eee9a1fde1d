/-
  A list in pieces; what slices.Chunk hands over. Conditions: those that each theorem names.
  slices.Clone of labels: labels of its own. Conditions: the list can be read; its size.
  chunk.pieces: chunks of so many rows each. Conditions: those that each theorem names.
  chunk.Split and the reference's Split. Conditions: those that each theorem names.
  What the law's Sames of lists of chunks answers where both read as the same; rows whose lines are spoilt. Conditions: the chunks can be read; sizes as each theorem names.
-/
import Derived.Test.YtaoeabnpmpimgaaDoorHprs
import Derived.Lib.MinMax
import Derived.BigRegionIn
import Derived.Test.YtaoeabnpmpimgaaDoorHpw
import Derived.Test.YtaoeabnpmpimgaaDoorEntAll2
import Derived.Test.YtaoeabnpmpimgaaDoorHre
import Derived.Test.YtaoeabnpmpimgaaDoorHsa
section
namespace Go.Icz
open Go.RowKit
/-- The places of pieces of n things each, from i on, of L things: where one begins, how many it has. -/
def posN (n L : Nat) : Nat → Nat → List (Nat × Nat)
  | 0, _ => []
  | k + 1, i => if i < L then (i, min n (L - i)) :: posN n L k (i + n) else []
theorem posN_enough {n L : Nat} (hn : 1 ≤ n) : ∀ (k k' i : Nat), L - i ≤ k → L - i ≤ k' → posN n L k i = posN n L k' i
  | 0, 0, _, _, _ => rfl
  | 0, k' + 1, i, h, _ => by
    unfold posN
    rw [if_neg (by omega)]
  | k + 1, 0, i, _, h => by
    unfold posN
    rw [if_neg (by omega)]
  | k + 1, k' + 1, i, h, h' => by
    unfold posN
    by_cases hi : i < L
    · rw [if_pos hi, if_pos hi, posN_enough hn k k' (i + n) (by omega) (by omega)]
    · rw [if_neg hi, if_neg hi]
def posL (n L i : Nat) : List (Nat × Nat) := posN n L (L - i) i
theorem posL_cons {n L i : Nat} (hn : 1 ≤ n) (hi : i < L) : posL n L i = (i, min n (L - i)) :: posL n L (i + n) := by
  unfold posL
  obtain ⟨k, hk⟩ : ∃ k, L - i = k + 1 := ⟨L - i - 1, by omega⟩
  rw [hk]
  conv => lhs; unfold posN
  rw [if_pos hi, posN_enough hn k (L - (i + n)) (i + n) (by omega) (Nat.le_refl _)]
  congr 2
  omega
theorem posL_nil {n L i : Nat} (hi : L ≤ i) : posL n L i = [] := by
  unfold posL
  rw [show L - i = 0 by omega]
  rfl
theorem posN_mem {n L : Nat} {x : Nat × Nat} : ∀ (k i : Nat), x ∈ posN n L k i → x.1 + x.2 ≤ L
  | 0, i, h => by cases h
  | k + 1, i, h => by
    unfold posN at h
    split at h
    · rcases List.mem_cons.1 h with rfl | h
      · simp only; omega
      · exact posN_mem k (i + n) h
    · cases h
theorem posL_mem {n L i : Nat} {x : Nat × Nat} (h : x ∈ posL n L i) : x.1 + x.2 ≤ L := posN_mem _ _ h
theorem posN_len (n L : Nat) : ∀ (k i : Nat), (posN n L k i).length ≤ k
  | 0, i => Nat.le_refl _
  | k + 1, i => by
    unfold posN
    split
    · have := posN_len n L k (i + n)
      simp only [List.length_cons]
      omega
    · simp
theorem posL_len (n L i : Nat) : (posL n L i).length ≤ L - i := posN_len n L _ i
theorem posN_mem2 {n L : Nat} {x : Nat × Nat} : ∀ (k i : Nat), x ∈ posN n L k i → x.2 ≤ n
  | 0, i, h => by cases h
  | k + 1, i, h => by
    unfold posN at h
    split at h
    · rcases List.mem_cons.1 h with rfl | h
      · simp only; omega
      · exact posN_mem2 k (i + n) h
    · cases h
theorem posL_mem2 {n L i : Nat} {x : Nat × Nat} (h : x ∈ posL n L i) : x.2 ≤ n := posN_mem2 _ _ h
/-- The piece at a place. -/
def pcAt {α : Type} (l : List α) (p : Nat × Nat) : List α := (l.drop p.1).take p.2
end Go.Icz
namespace Go.Proofs.YtaoeabnpmpimgaaDoor
open Go.RowKit Go.Icz Go.Shelf
attribute [local go_sem] Oper.semAt_some
set_option maxRecDepth 100000
set_option maxHeartbeats 4000000
theorem Chunk_is (A : Option Addr) (L c n : Nat) (hn : 1 ≤ n) (w : World) : Calls Tryd.prog 50 #[.slice A L c, .int .i64 (n : Int)] w fun e w' => e = .returned (.func (.func 71) #[] #[.pointer (some ⟨w.heap.size, 0, none⟩), .pointer (some ⟨w.heap.size + 1, 0, none⟩)]) ∧ w' = (w.alloc (.cells #[.slice A L c] 37)).alloc (.cells #[.int .i64 (n : Int)] 3) := by
  have hn1 : ¬ (n : Int) < 1 := by omega
  clear hn
  go_enter Tryd.func50, Tryd.ntmps50
  go_wp2
  go_ret
  exact ⟨rfl, rfl⟩
theorem chunkR1_givesS {N : Nat → Prop} (w0 : World) (bx by' b off L c n : Nat) (hb : w0.cell? ⟨bx, 0, none⟩ = some (.slice (some ⟨b, off, none⟩) L c)) (hb' : w0.cell? ⟨by', 0, none⟩ = some (.int .i64 (n : Int))) (hn : 1 ≤ n) (hn2 : n ≤ 9223372036854775807) (hL : L ≤ 1152921504606846976) (hc : L ≤ c) (hSb : N bx) (hSb' : N by') :
    GivesS N Tryd.prog 71 #[.pointer (some ⟨bx, 0, none⟩), .pointer (some ⟨by', 0, none⟩)] (fun p : Nat × Nat => #[.slice (some ⟨b, off + p.1 * 3, none⟩) p.2 p.2]) (posL n L 0) w0 := by
  intro r J Jx W hW hJ hJx hY h0
  refine (callsIn_wide (n := 3)).1 ?_
  refine callsIn_of_wp Tryd.func71 rfl trivial ?_ rfl
  have hlt := fun (p : Addr) v (h : w0.cell? p = some v) => World.block_lt_of_cell? w0 p h
  have hWb : W.cell? ⟨bx, 0, none⟩ = some (.slice (some ⟨b, off, none⟩) L c) := (hW.cell (p := ⟨bx, 0, none⟩) (hlt _ _ hb)).trans hb
  have hWb' : W.cell? ⟨by', 0, none⟩ = some (.int .i64 (n : Int)) := (hW.cell (p := ⟨by', 0, none⟩) (hlt _ _ hb')).trans hb'
  have HJ := hid hJ
  have HLn := hid (And.intro hn (And.intro hn2 (And.intro hL hc)))
  clear hb hb' hJ hlt hn hn2 hL hc
  simp only [Tryd.ntmps71, List.size_toArray, List.length_cons, List.length_nil, Nat.reduceAdd, Nat.reduceSub, Array.replicate_succ, Array.replicate_zero, List.push_toArray, List.append_toArray, List.nil_append, List.cons_append]
  gi_wp2
  gi_loopw [4] (fun i wr => ∃ (j : Nat) (pre : List (Nat × Nat)), i = .int .i64 (j : Int) ∧ Hid (j = 0 ∨ n ≤ j) ∧ Hid (posL n L 0 = pre ++ posL n L j) ∧ J pre wr ∧ KeptS N W.heap.size W wr)
    (fun i _ => L - (intOf i).toNat)
  case atStart => exact ⟨0, [], rfl, hid (.inl rfl), hid rfl, h0, KeptS.refl _ _⟩
  case round =>
    obtain ⟨j, pre, rfl, hj1, hx, hJs, hkp⟩ := hrel
    have dbx := hkp.cell hWb hSb
    have dby := hkp.cell hWb' hSb'
    by_cases hjl : j < L
    · have hji : (j : Int) < (L : Int) := by omega
      have HH := HLn.out
      obtain ⟨e, he⟩ : ∃ e, e = min n (L - j) := ⟨_, rfl⟩
      have hen : min (n : Int) ((L - j : Nat) : Int) = (e : Int) := by omega
      have zj : IntKind.i64.wrap ((j : Int) + (n : Int)) = ((j + n : Nat) : Int) := by have := hj1.out; rw [IntKind.wrap_i64]; omega
      have hjn : Hid (j + n ≤ 9223372036854775807 ∧ (j + n = 0 ∨ n ≤ j + n)) := hid (by have := hj1.out; omega)
      have hel : j + e ≤ L := by omega
      have hxk : posL n L 0 = pre ++ (j, e) :: posL n L (j + n) := by rw [hx.out, posL_cons HH.1 hjl, he]
      have hx2 : Hid (posL n L 0 = (pre ++ [(j, e)]) ++ posL n L (j + n)) := hid (by rw [hxk]; simp)
      have HY := hid (yield_any (m' := 2) (hY pre (j, e) _ wr.drew hxk (HJ.out _ _ _ hJs (stl_drewN _ _ 1))))
      have HK := hid (And.intro hjl hkp)
      have hL2 : (L : Int) ≤ 1152921504606846976 := by omega
      have hc3 : (L : Int) ≤ (c : Int) := by omega
      clear hx hj1 hxk hY hJs hkp hW HH
      have ze : IntKind.i64.wrap ((j : Int) + (e : Int)) = ((j + e : Nat) : Int) := by rw [IntKind.wrap_i64]; omega
      have hec2 : (j : Int) + (e : Int) ≤ (c : Int) := by omega
      have hec3 : (j : Int) + (e : Int) ≤ (L : Int) := by omega
      have hec : j + e ≤ c := by omega
      have he1 : ¬ e = 0 := by have := HLn.out.1; omega
      have he2 : 1 ≤ e := by omega
      have he3 : (1 : Int) ≤ (e : Int) := by omega
      have HEN := hid hen
      clear hen he
      gi_wp2
      gi_region
      rw [HEN.out]
      obtain ⟨fn, tmps, assign, body, hy, hR⟩ := HY.out
      try dsimp only at hy
      gi_wp2
      refine hR.mono ?_
      rintro e W3 (⟨rfl, hJ3, hk3⟩ | ⟨rfl, hJx3, _⟩)
      · have HK3 := hid hk3
        have dx3 := hk3.cell (p := ⟨bx, 0, none⟩) (v := .slice (some ⟨b, off, none⟩) L c) dbx hSb
        have dy3 := hk3.cell (p := ⟨by', 0, none⟩) (v := .int .i64 (n : Int)) dby hSb'
        clear hk3
        gi_wp2
        go_roundw
        case rel => exact ⟨j + n, pre ++ [(j, e)], by go_num, hid hjn.out.2, hx2, hJ3, HK.out.2.trans ((keptS_drewN _ _ 1).trans (HK3.out.mono (Nat.le_refl _)))⟩
        case measure => have := HK.out.1; have := HLn.out.1; simp [intOf]; omega
      · gi_wp2
        refine bodyPost_ret (results_none rfl _ _ _) rfl ?_
        exact ⟨⟨_, rfl⟩, .inr hJx3⟩
    · have hji : ¬ (j : Int) < (L : Int) := by omega
      have he := hx.out
      rw [posL_nil (n := n) (L := L) (i := j) (by omega), List.append_nil] at he
      have HE := hid he
      clear he hx hj1
      gi_wp2
      go_end0
      exact ⟨⟨_, rfl⟩, .inl (by rw [HE.out]; exact hJs)⟩
end Go.Proofs.YtaoeabnpmpimgaaDoor
end
section
namespace Go.Proofs.YtaoeabnpmpimgaaDoor
open Go.RowKit Go.Icz
/-- It answers labels of its own. -/
def LabOut (l : List Lab) (w : World) (e : Ending) (w' : World) : Prop := ∃ A c, e = .returned (.slice A l.length c) ∧ OwnL w' w.heap.size (.slice A l.length c) l ∧ Below w.heap.size w w'
set_option maxHeartbeats 4000000 in
set_option maxRecDepth 100000 in
theorem CloneL_is (v : Value) (l : List Lab) (w : World) (hR : RdL w v l) (hlen : l.length * 32 ≤ 140737488355328) :
    Calls Tryd.prog 42 #[v] w (LabOut l w) := by
  have hR' := hR
  obtain ⟨A, c, rfl, hlc, hcell⟩ := hR'
  have q22 : ∀ (w : World) (a : Option Addr) (n c n' c' : Nat), (binOp .eql 32 (.slice a n c) (.slice none n' c')).run Tryd.prog w = .ok (.bool a.isNone) w := fun w a n c n' c' => Lib.run_eql_slice_nil w _ _ a n c n' c' Tryd.underlying32
  rcases A with _ | ad
  · have hl : l = [] := by
      rcases Nat.eq_zero_or_pos l.length with h0 | h0
      · exact List.eq_nil_of_length_eq_zero h0
      · obtain ⟨b, off, e, _⟩ := hcell h0
        cases e
    subst hl
    clear hcell hR
    go_enter Tryd.func42, Tryd.ntmps42
    go_wp2
    go_ret
    exact ⟨none, 0, rfl, OwnL.nil _ _, Below.refl _ _⟩
  · clear hcell
    have hR2 := fun o => hR.alloc o
    go_enter Tryd.func42, Tryd.ntmps42
    go_wp2_with (at_builtin; refine wp_appL rfl (.tmp 5) (.tmp 6) rfl w.heap.size _ _ [] l rfl (OwnL.made w (Nat.le_refl _)) rfl (hR2 _) (by simpa using hlen) (by simp) ?_; intro v' w1 hown hb hn)
    have hown' : OwnL w1 w.heap.size v' l := by simpa using hown
    obtain ⟨A', c', rfl, _⟩ := hown'.rd
    go_ret
    exact ⟨A', c', rfl, hown', below_allocT (Nat.le_refl _) hb⟩
end Go.Proofs.YtaoeabnpmpimgaaDoor
end
section
namespace Go.Icz
open Go.RowKit Go
/-- A chunk, and where its labels and rows lie. -/
structure CV where
  labs : List Lab
  A : Option Addr
  c : Nat
  rows : List CRow
  A2 : Option Addr
  c2 : Nat
def KC (e : TypeId) : Kd CV where
  e := e
  z := 2
  enc := fun x => [.slice x.A x.labs.length x.c, .slice x.A2 x.rows.length x.c2]
  len := fun _ => rfl
  pos := by decide
  one := by
    intro x u hu
    simp only [List.mem_cons, List.not_mem_nil, or_false] at hu
    rcases hu with rfl | rfl <;> rfl
abbrev CV.l (x : CV) : Value := .slice x.A x.labs.length x.c
abbrev CV.r (x : CV) : Value := .slice x.A2 x.rows.length x.c2
abbrev CV.bare (x : CV) : List Lab × List CRow := (x.labs, x.rows)
def OwC (e : TypeId) (K : Kd CRow) (w : World) (B : Nat) (v : Value) (l : List CV) : Prop := (KC e).Own w B v l ∧ ∀ x ∈ l, KLb.Own w B x.l x.labs ∧ K.Own w B x.r x.rows
def RdC (e : TypeId) (K : Kd CRow) (w : World) (v : Value) (l : List CV) : Prop := (KC e).Rd w v l ∧ ∀ x ∈ l, RdL w x.l x.labs ∧ K.Rd w x.r x.rows
theorem OwC.below {e : TypeId} {K : Kd CRow} {w w' : World} {B : Nat} {v : Value} {l : List CV} (h : OwC e K w B v l) (hb : Below w.heap.size w w') : OwC e K w' B v l := ⟨h.1.below hb, fun x hx => ⟨(h.2 x hx).1.below hb, (h.2 x hx).2.below hb⟩⟩
theorem RdC.below {e : TypeId} {K : Kd CRow} {w w' : World} {v : Value} {l : List CV} (h : RdC e K w v l) (hb : Below w.heap.size w w') : RdC e K w' v l := ⟨h.1.below hb, fun x hx => ⟨(h.2 x hx).1.below hb, (h.2 x hx).2.below hb⟩⟩
theorem OwC.mono {e : TypeId} {K : Kd CRow} {w : World} {B B' : Nat} {v : Value} {l : List CV} (h : OwC e K w B v l) (hB : B' ≤ B) : OwC e K w B' v l := ⟨h.1.mono hB, fun x hx => ⟨(h.2 x hx).1.mono hB, (h.2 x hx).2.mono hB⟩⟩
theorem OwC.nil (e : TypeId) (K : Kd CRow) (w : World) (B : Nat) : OwC e K w B (.slice none 0 0) [] := ⟨Kd.Own.nil w B, by simp⟩
theorem klb_owl {w : World} {B : Nat} {v : Value} {l : List Lab} (h : KLb.Own w B v l) : OwnL w B v l := h
theorem OwC.rd {e : TypeId} {K : Kd CRow} {w : World} {B : Nat} {v : Value} {l : List CV} (h : OwC e K w B v l) : RdC e K w v l := ⟨h.1.rd, fun x hx => ⟨(klb_owl (h.2 x hx).1).rd, (h.2 x hx).2.rd⟩⟩
theorem Kd.Own.apart {α β : Type} {K : Kd α} {K' : Kd β} (he : K.e ≠ K'.e) {w w' : World} {B B' : Nat} {u v : Value} {m : List α} {l : List β} (h : K.Own w B u m) (hrow : K'.Own w B' v l) (hg : w.grownBy w' v.ownBlock) : K.Own w' B u m := by
  refine World.ownsRow.kept h hg ?_
  rcases h.2 with ⟨rfl, _⟩ | ⟨k, cap, cur, rfl, _, hh, _⟩
  · exact .inl rfl
  · right
    intro e
    rcases hrow.2 with ⟨rfl, _⟩ | ⟨k2, cap2, cur2, rfl, _, hh2, _⟩
    · simp [Value.ownBlock] at e
    · simp only [Value.ownBlock, Option.some.injEq] at e
      subst e
      rw [hh] at hh2
      injection hh2 with hh2
      injection hh2 with _ h2 _
      exact absurd h2 he
/-- One chunk more. -/
theorem OwC.more {e : TypeId} {K : Kd CRow} (h1 : KLb.e ≠ e) (h2 : K.e ≠ e) {w w' : World} {B : Nat} {v v' : Value} {m n : List CV} (h : OwC e K w B v m) (hn : ∀ x ∈ n, KLb.Own w B x.l x.labs ∧ K.Own w B x.r x.rows) (ho : (KC e).Own w' B v' (m ++ n)) (hg : w.grownBy w' v.ownBlock) : OwC e K w' B v' (m ++ n) := by
  refine ⟨ho, fun q hq => ?_⟩
  rcases List.mem_append.1 hq with hq | hq
  · exact ⟨Kd.Own.apart (K' := KC e) h1 (h.2 q hq).1 h.1 hg, Kd.Own.apart (K' := KC e) h2 (h.2 q hq).2 h.1 hg⟩
  · exact ⟨Kd.Own.apart (K' := KC e) h1 (hn q hq).1 h.1 hg, Kd.Own.apart (K' := KC e) h2 (hn q hq).2 h.1 hg⟩
/-- Where no cells turn. -/
theorem Kd.Own.stl {α : Type} {K : Kd α} {n : Nat} {w w' : World} {B : Nat} {v : Value} {l : List α} (h : K.Own w B v l) (t : Stl n w w') : K.Own w' B v l := by
  refine ⟨h.1, ?_⟩
  rcases h.2 with h | ⟨g', cap, cur, hv, hb, hg, r⟩
  · exact .inl h
  · exact .inr ⟨g', cap, cur, hv, hb, t.2 _ _ _ _ hg, r⟩
theorem OwC.stl {e : TypeId} {K : Kd CRow} {n : Nat} {w w' : World} {B : Nat} {v : Value} {l : List CV} (h : OwC e K w B v l) (t : Stl n w w') : OwC e K w' B v l := ⟨h.1.stl t, fun x hx => ⟨(h.2 x hx).1.stl t, (h.2 x hx).2.stl t⟩⟩
theorem OwC.set {e : TypeId} {K : Kd CRow} {w : World} {B g : Nat} {v : Value} {l : List CV} (h : OwC e K w B v l) (hg : g < B) (i : Nat) (u : Value) : OwC e K (w.setCell ⟨g, i, none⟩ u) B v l := by
  have t : Tch (fun k => k = g) w (w.setCell ⟨g, i, none⟩ u) := Tch.set (fun k => k = g) w ⟨g, i, none⟩ u rfl
  exact ⟨h.1.touch t (fun j hj e => by have := (h.1.lt _ e).1; omega), fun x hx => ⟨(h.2 x hx).1.touch t (fun j hj e => by have := ((h.2 x hx).1.lt _ e).1; omega), (h.2 x hx).2.touch t (fun j hj e => by have := ((h.2 x hx).2.lt _ e).1; omega)⟩⟩
/-- 'append(v, x...)' at a step of a region that draws its order. -/
theorem Kd.step_appF {α : Type} {K : Kd α} {P : Program} {ops : Array Oper} {o : Oper} {a : Act} {Kn : Act → World → Prop} {Q : Exit → Act → World → Prop} {E : Prop} {w : World} (hgd : o.guard = none) (s x : Operand) (t : TypeId)
    (ho : o.op = .call { callee := .builtin .append, args := #[s, x], argTypes := #[t, t] }) (ht : P.underlying t = some (.slice K.e)) {zv : Value} {by' : Nat} (info : (P.info? K.e).map (fun i => (i.zero, i.size, i.bytes)) = some (some zv, K.z, by')) (hzs : zv.cells.size = K.z)
    (B : Nat) (v u : Value) (l m : List α) (hs : a.eval s = v) (hown : K.Own w B v l) (hx : a.eval x = u) (hr : K.Rd w u m)
    (hmax : l.length + m.length ≤ maxLen) (hlen : (l.length + m.length) * by' ≤ 140737488355328) (hB : B ≤ w.heap.size)
    (h : ∀ v' w', K.Own w' B v' (l ++ m) → Below B w w' → w.grownBy w' v.ownBlock → Kn (a.put o.dst v') w') :
    if Region.wanted o (yielded ops a.tmps) = true then Oper.wp P o a w Kn Q else E := by
  obtain ⟨v', w', hrun, h1, h2⟩ := Kd.run_app t o.type ht info hzs B v u l m hown hr hmax hlen hB
  exact step_run_app hgd s x t ho v u v' w' hs hx hrun (h v' w' h1 ((Below.refl B w).grown h2 hB (fun k hk => (hown.lt k hk).1)) h2)
theorem Kd.own_empty {α : Type} {K : Kd α} {w : World} {B g : Nat} (h : w.heap[g]? = some (.cells #[] K.e (0, 0))) (hB : B ≤ g) : K.Own w B (.slice (some ⟨g, 0, none⟩) 0 0) [] := by
  refine ⟨by simp [Kd.cells], .inr ⟨g, 0, #[], rfl, hB, h, by simp, by simp, by simp, by simp [Kd.cells]⟩⟩
theorem Kd.Rd.at_piece {α : Type} {K : Kd α} {w : World} {b off c : Nat} {l : List α} (h : K.Rd w (.slice (some ⟨b, off, none⟩) l.length c) l) (i e c' : Nat) (hi : i + e ≤ l.length) (hc' : e ≤ c') : K.Rd w (.slice (some ⟨b, off + i * K.z, none⟩) e c') (pcAt l (i, e)) := by
  obtain ⟨A', c', hv, hc, hr⟩ := h
  injection hv with e1 e2 e3
  subst e1 e3
  have hl : (pcAt l (i, e)).length = e := by unfold pcAt; rw [List.length_take, List.length_drop]; simp only; omega
  refine ⟨_, c', by rw [hl], by rw [hl]; exact hc', fun h0 => ?_⟩
  rw [hl] at h0
  obtain ⟨b0, off0, hA, hlt, hcell⟩ := hr (by omega)
  injection hA with hA
  injection hA with hA1 hA2
  subst hA1 hA2
  refine ⟨b, off + i * K.z, rfl, hlt, Kd.cells_at (K := K) (fun j hj k u hk hu => ?_)⟩
  rw [hl] at hj
  have e2 : (pcAt l (i, e))[j]'(by rw [hl]; exact hj) = l[i + j]'(by omega) := by unfold pcAt; simp
  rw [e2] at hu
  have := hcell ((i + j) * K.z + k) u ((Kd.cells_get (K := K) l (i + j) (by omega) k hk).trans hu)
  rw [show off + i * K.z + (j * K.z + k) = off + ((i + j) * K.z + k) by rw [Nat.add_mul]; omega]
  exact this
section
variable {P : Program} {ops : Array Oper} {n : Nat}
/-- What wpAnyL shows holds in a round too. -/
theorem region_roundL {id r : Nat} {Q : Exit → Act → World → Prop} (z : Nat) (S : World → Prop) {a : Act} {w : World} (hm : P.follows .mixedOrders = true) (hd : noDefer ops = true)
    (h : wpAnyL P .any ops (NoOut Q) S z ops.size (Array.replicate ops.size false) a w.drew) : (Code.region id ops true).wpIn (Fence.wide.inRound r) n P Q a w :=
  wpIn_mono (wpIn_region_any hm (wpAnyIn_round r (noDefer_spec hd) _ _ _ _ (anyIn_wide hd (Q := NoOut Q) (no_out Q) _ _ _ _ (wpAny_of_L _ _ _ _ h)))) (fun _ _ _ h => h.2)
end
/-- The chunk's pieces of n rows. -/
def cutC (labs : List Lab) (rows : List CRow) (n : Nat) : List (List Lab × List CRow) := (posL n rows.length 0).map fun p => (labs, pcAt rows p)
end Go.Icz
namespace Go.Proofs.YtaoeabnpmpimgaaDoor
open Go.RowKit Go.Icz Go.Shelf
attribute [local go_sem] Oper.semAt_some
set_option maxRecDepth 100000
set_option maxHeartbeats 4000000
theorem infoC : (Tryd.prog.info? 39).map (fun i => (i.zero, i.size, i.bytes)) = some (some (.agg #[.slice none 0 0, .slice none 0 0]), 2, 48) := by kernel_rfl
theorem CloneR_is (v : Value) (l : List CRow) (w : World) (hR : KRw.Rd w v l) (hlen : l.length ≤ 1000) :
    Calls Tryd.prog 51 #[v] w fun e w' => ∃ A c, e = .returned (.slice A l.length c) ∧ KRw.Own w' w.heap.size (.slice A l.length c) l ∧ Below w.heap.size w w' := by
  obtain ⟨A, c, rfl, hlc, hcell⟩ := id hR
  have hn := Lib.run_eql_slice_nil (P := Tryd.prog)
  have hmd : KRw.Own (w.alloc (.cells #[] KRw.e)) w.heap.size (.slice (some ⟨w.heap.size, 0, none⟩) 0 0) [] := World.ownsRow_made w #[] 0 (Nat.le_refl _) (by decide) (by simp)
  rcases A with _ | a
  · have hl : l = [] := by
      rcases Nat.eq_zero_or_pos l.length with h | h
      · exact List.eq_nil_of_length_eq_zero h
      · obtain ⟨_, _, h, _⟩ := hcell h
        cases h
    subst hl
    clear hcell hR hmd
    go_enter Tryd.func51, Tryd.ntmps51
    go_wp2
    go_ret
    exact ⟨none, 0, rfl, Kd.Own.nil _ _, Below.refl _ _⟩
  · clear hcell
    go_enter Tryd.func51, Tryd.ntmps51
    go_wp2_with (at_builtin; refine Kd.wp_app (K := KRw) rfl (.tmp 5) (.tmp 6) 37 rfl Tryd.underlying37 infoRw rfl w.heap.size _ _ [] l rfl hmd rfl (hR.alloc _) (by unfold maxLen; simp; omega) (by simp; omega) (by simp) ?_; intro v1 w1 o1 b1 g1 n1)
    obtain ⟨A1, c1, rfl, _⟩ := o1.rd.form
    go_ret
    exact ⟨A1, c1, rfl, o1, below_allocT (Nat.le_refl _) b1⟩
/-- It answers these chunks in memory of their own. -/
def PcOut (L : List (List Lab × List CRow)) (w : World) (e : Ending) (w' : World) : Prop := ∃ v m, e = .returned v ∧ OwC 39 KRw w' w.heap.size v m ∧ m.map CV.bare = L ∧ Below w.heap.size w w'
theorem pieces_is (labs : List Lab) (rows : List CRow) (A A2 : Option Addr) (C C2 n : Nat) (w : World) (hL : RdL w (.slice A labs.length C) labs) (hR : KRw.Rd w (.slice A2 rows.length C2) rows) (hlz : labs.length * 32 ≤ 140737488351232) (hn : 1 ≤ n) (hn2 : n ≤ 9223372036854775807) (h1 : 1 ≤ rows.length) (h2 : rows.length * 56 ≤ 140737488351232) (hn3 : min n rows.length ≤ 1000) :
    Calls Tryd.prog 26 #[.slice A labs.length C, .slice A2 rows.length C2, .int .i64 (n : Int)] w (PcOut (cutC labs rows n) w) := by
  obtain ⟨bR, offR, cR, hvR, hltR, hcs1⟩ := hR.ats (j := 0) (by omega)
  injection hvR with hv1 _ hv2
  subst hv1
  subst hv2
  have hlc : rows.length ≤ C2 := by
    obtain ⟨A', c', hv, hc, _⟩ := hR
    injection hv with _ _ e3
    rw [e3]; exact hc
  obtain ⟨W0, hW0⟩ : ∃ W0, W0 = (w.alloc (.cells #[.slice A labs.length C] 32)).alloc (.cells #[.slice none 0 0] 25) := ⟨_, rfl⟩
  have b0 : Below w.heap.size w W0 := by rw [hW0]; exact ((Below.refl _ w).alloc (Nat.le_refl _) _).alloc (by simp) _
  have z0 : W0.heap.size = w.heap.size + 2 := by rw [hW0]; simp
  have x0 : W0.heap[w.heap.size]? = some (.cells #[.slice A labs.length C] 32 (0, 0)) := by rw [hW0]; exact heap_alloc2_old w _ _
  have x1 : W0.heap[w.heap.size + 1]? = some (.cells #[.slice none 0 0] 25 (0, 0)) := by rw [hW0]; exact heap_alloc2_new w _ _
  have HX := hid (And.intro x0 x1)
  have HB0 := hid b0
  have HZ0 := hid z0
  have HLR := hid (And.intro hL hR)
  have HN3 := hid hn3
  have HN := hid (And.intro (And.intro hlz hltR) (And.intro (And.intro hn hn2) (And.intro (And.intro h1 h2) hlc)))
  clear hn3 hL hR hlz hn hn2 h1 h2 hlc b0 x0 x1 z0 hcs1 hltR
  refine (callsIn_wide (n := 9)).1 ?_
  refine callsIn_of_wp_marks Tryd.func26 rfl trivial (wpIn_wide.2 ?_) rfl
  simp only [Tryd.ntmps26, List.size_toArray, List.length_cons, List.length_nil, Nat.reduceAdd, Nat.reduceSub, Array.replicate_succ, Array.replicate_zero, List.push_toArray, List.append_toArray, List.nil_append, List.cons_append]
  go_wp2_with (go_at_call 50; refine (Chunk_is _ _ _ _ HN.out.2.1.1 _).mono ?_; rintro e w3 ⟨rfl, hw3⟩)
  --BODY
  obtain ⟨W3, hW3⟩ : ∃ W3, W3 = w3 := ⟨_, rfl⟩
  rw [hw3] at hW3
  rw [← hW3]
  rw [← hW0] at hW3
  have b03 : Below W0.heap.size W0 W3 := by rw [hW3]; exact ((Below.refl _ W0).alloc (Nat.le_refl _) _).alloc (by simp) _
  have z3 : W3.heap.size = w.heap.size + 4 := by rw [hW3]; simp; exact HZ0.out
  have zz0 := HZ0.out
  have p2 : W3.cell? ⟨w.heap.size + 1 + 1, 0, none⟩ = some (.slice (some ⟨bR, offR, none⟩) rows.length C2) := by
    have := heap_alloc2_old W0 (.cells #[.slice (some ⟨bR, offR, none⟩) rows.length C2] 37) (.cells #[.int .i64 (n : Int)] 3)
    rw [zz0] at this
    rw [hW3]
    exact held_cell (i := 0) this rfl
  have p3 : W3.cell? ⟨w.heap.size + 1 + 1 + 1, 0, none⟩ = some (.int .i64 (n : Int)) := by
    have := heap_alloc2_new W0 (.cells #[.slice (some ⟨bR, offR, none⟩) rows.length C2] 37) (.cells #[.int .i64 (n : Int)] 3)
    rw [zz0] at this
    rw [hW3]
    exact held_cell (i := 0) this rfl
  have y0 := (b03.block _ (row_lt HX.out.1)).trans HX.out.1
  have y1 := (b03.block _ (row_lt HX.out.2)).trans HX.out.2
  have NN := HN.out
  have hseq := chunkR1_givesS (N := fun k => k < w.heap.size ∨ k = w.heap.size + 1 + 1 ∨ k = w.heap.size + 1 + 1 + 1) W3 (w.heap.size + 1 + 1) (w.heap.size + 1 + 1 + 1) bR offR rows.length C2 n p2 p3 NN.2.1.1 NN.2.1.2 (by have := NN.2.2.1.2; omega) NN.2.2.2 (.inr (.inl rfl)) (.inr (.inr rfl))
  have bW3 : Below w.heap.size w W3 := HB0.out.trans (b03.mono HB0.out.size)
  have HBW3 := hid bW3
  have HZ3 := hid z3
  clear NN p2 p3 hW3 hw3 b03 hW0 zz0 z3
  obtain ⟨I, hI0⟩ : ∃ I : List (Nat × Nat) → World → Prop, I = (fun pre Wi => ∃ v m, Wi.heap[w.heap.size]? = some (.cells #[.slice A labs.length C] 32 (0, 0)) ∧ Wi.heap[w.heap.size + 1]? = some (.cells #[v] 25 (0, 0)) ∧ OwC 39 KRw Wi W3.heap.size v m ∧ m.map CV.bare = pre.map (fun p => (labs, pcAt rows p)) ∧ Below w.heap.size w Wi ∧ W3.heap.size ≤ Wi.heap.size) := ⟨_, rfl⟩
  have HI0 := hid hI0
  clear hI0
  refine (wpIn_wide (n := 8)).1 (wp_rangeFuncS (N := fun k => k < w.heap.size ∨ k = w.heap.size + 1 + 1 ∨ k = w.heap.size + 1 + 1 + 1) (ps := #[12]) (gf := 71) (lb := #[.pointer (some ⟨w.heap.size + 1 + 1, 0, none⟩), .pointer (some ⟨w.heap.size + 1 + 1 + 1, 0, none⟩)]) rfl (enters_of Tryd.func71 (by kernel_rfl) rfl) (fun _ => rfl) hseq
    I (fun _ => False)
    (fun s a b h t => by
      rw [HI0.out] at h ⊢
      obtain ⟨v, m, h1, h2, h3, h4, h5, h6⟩ := h
      exact ⟨v, m, t.2 _ _ _ _ h1, t.2 _ _ _ _ h2, h3.stl t, h4, Tch.below h5 t.1 (fun j hj => by have := HZ3.out; omega) h5.size, Nat.le_trans h6 t.1.size⟩)
    (fun a b h t => h)
    (by rw [HI0.out]; exact ⟨_, [], y0, y1, OwC.nil _ _ _ _, rfl, bW3, Nat.le_refl _⟩)
    (fun x b => { tmps := #[.slice A labs.length C, .slice (some ⟨bR, offR, none⟩) rows.length C2, .int .i64 (n : Int), .pointer (some ⟨w.heap.size, 0, none⟩), undef, undef, .slice none 0 0, .pointer (some ⟨w.heap.size + 1, 0, none⟩), .slice (some ⟨bR, offR + x.1 * 3, none⟩) x.2 x.2, .slice (some ⟨bR, offR, none⟩) rows.length C2, .int .i64 (n : Int), .func (.func 71) #[] #[.pointer (some ⟨w.heap.size + 1 + 1, 0, none⟩), .pointer (some ⟨w.heap.size + 1 + 1 + 1, 0, none⟩)], .slice (some ⟨bR, offR + x.1 * 3, none⟩) x.2 x.2, undef, undef, undef, undef, undef, undef, undef, undef, undef], defers := [] })
    (fun x W => W) (fun x W => Below.refl _ _) ?assign ?body ?done ?stop)
  case assign =>
    intro l x Wi K _ hK
    gi_wp2
    exact hK
  case body =>
    rintro l pre x rest b W0' Wi hx hb1 hb2 hbs hrows hI
    have HIX := hid hI
    rw [HI0.out] at hI
    obtain ⟨v, m, h1, h2, h3, h4, h5, h6⟩ := hI
    have hmem : x ∈ posL n rows.length 0 := by rw [hx]; simp
    have hpx := posL_mem hmem
    have HPX : Hid (x.1 + x.2 ≤ rows.length ∧ (pcAt rows x).length = x.2 ∧ (pcAt rows x).length ≤ 1000) := hid (by
      have hl : (pcAt rows x).length = x.2 := by unfold pcAt; rw [List.length_take, List.length_drop]; omega
      exact ⟨hpx, hl, by have := HN3.out; have := posL_mem2 hmem; omega⟩)
    have HML : Hid ((m.length + 1) * 48 ≤ 140737488355328) := hid (by
      have e1 := congrArg List.length h4
      have e2 := congrArg List.length hx
      have e3 := posL_len n rows.length 0
      simp at e1 e2
      have := HN.out.2.2.1.2
      omega)
    have hown := h3.1.lt
    have z3' := HZ3.out
    have hne0 : some w.heap.size ≠ v.ownBlock := fun e => by have := (hown _ e.symm).1; omega
    have hne1 : some (w.heap.size + 1) ≠ v.ownBlock := fun e => by have := (hown _ e.symm).1; omega
    have SN : Hid (∀ wS : World, (∀ k, k < Wi.heap.size → some k ≠ v.ownBlock → wS.heap[k]? = Wi.heap[k]?) → wS.cell? ⟨w.heap.size + 1, 0, none⟩ = some v ∧ wS.cell? ⟨w.heap.size, 0, none⟩ = some (.slice A labs.length C)) := hid (fun wS hw => ⟨held_cell ((hw _ (row_lt h2) hne1).trans h2) rfl, held_cell ((hw _ (row_lt h1) hne0).trans h1) rfl⟩)
    have SC : Hid (∀ wS : World, Below Wi.heap.size Wi wS → wS.cell? ⟨w.heap.size + 1, 0, none⟩ = some v ∧ wS.cell? ⟨w.heap.size, 0, none⟩ = some (.slice A labs.length C)) := hid (fun wS hw => SN.out wS (fun k hk _ => hw.block k hk))
    have XL : Hid (some (w.heap.size + 1) ≠ v.ownBlock ∧ w.heap.size + 1 < Wi.heap.size) := hid ⟨hne1, row_lt h2⟩
    have XB := hid h2
    have XA := hid (And.intro h1 hne0)
    clear h1
    have BI := hid h5
    have BI2 := hid h6
    have HO := hid h3
    have HOP : Hid (True ∧ ∀ wy, Below Wi.heap.size Wi wy → OwC 39 KRw wy W3.heap.size v m) := hid ⟨trivial, fun wy hb => h3.below hb⟩
    have HM := hid h4
    have HFIN : Hid (∀ (w8 : World) (w6 : World) (n8 : Nat) (A8 : Option Addr) (k8 : Nat) (A5 : Option Addr) (c5 : Nat) (A6 : Option Addr) (c6 : Nat), Below Wi.heap.size Wi w6 → OwC 39 KRw w6 W3.heap.size v m → KLb.Own w6 Wi.heap.size (.slice A5 labs.length c5) labs → True) := hid (fun _ _ _ _ _ _ _ _ _ _ _ _ => trivial)
    clear hmem hpx hown z3' hne0 hne1 h2 h3 h4 h5 h6 hseq hrows hbs hb1 hb2 HFIN
    gi_wp2
    refine region_roundL 8 (fun wS => wS.cell? ⟨w.heap.size + 1, 0, none⟩ = some v ∧ wS.cell? ⟨w.heap.size, 0, none⟩ = some (.slice A labs.length C)) (by kernel_rfl) (by kernel_rfl) ?_
    refine takeL (i := 0) (d := 13) (v := v) rfl rfl (by kernel_rfl) (by kernel_rfl) (by kernel_rfl) (by kernel_rfl) (by kernel_rfl) (fun _ _ _ h => h) (Or.inl ⟨by rfl, fun wS hSw => by obtain ⟨s0, s1⟩ := hSw; go_simp⟩) (SC.out _ (Below.refl _ _).drew) ?_
    try simp only [List.setIfInBounds_toArray, List.set_cons_zero, List.set_cons_succ]
    refine takeL (i := 1) (d := 14) (v := .slice A labs.length C) rfl rfl (by kernel_rfl) (by kernel_rfl) (by kernel_rfl) (by kernel_rfl) (by kernel_rfl) (fun _ _ _ h => h) (Or.inl ⟨by rfl, fun wS hSw => by obtain ⟨s0, s1⟩ := hSw; go_simp⟩) (SC.out _ (Below.refl _ _).drew) ?_
    try simp only [List.setIfInBounds_toArray, List.set_cons_zero, List.set_cons_succ]
    refine takeL (i := 3) (d := 16) (v := .slice (some ⟨bR, offR + x.1 * 3, none⟩) x.2 x.2) rfl rfl (by kernel_rfl) (by kernel_rfl) (by kernel_rfl) (by kernel_rfl) (by kernel_rfl) (fun _ _ _ h => h) (Or.inl ⟨by rfl, fun wS hSw => by obtain ⟨s0, s1⟩ := hSw; go_simp⟩) (SC.out _ (Below.refl _ _).drew) ?_
    try simp only [List.setIfInBounds_toArray, List.set_cons_zero, List.set_cons_succ]
    refine readyL (rs := [2]) (by kernel_rfl) (by simp) ?_
    refine AllReadyL.cons rfl (fun K hK => ?_) AllReadyL.nil
    go_simp
    go_at_call 42
    refine (CloneL_is _ labs _ (HLR.out.1.below (BI.out.trans ((Below.refl Wi.heap.size Wi).drew.mono BI.out.size))) (by have := HN.out.1.1; omega)).mono ?_
    rintro e w5 ⟨A5, c5, rfl, o5, b5⟩
    have B5 : Below Wi.heap.size Wi w5 := (Below.refl Wi.heap.size Wi).drew.trans b5
    refine hK.out _ _ (SC.out _ B5) ?_
    clear hK K
    try simp only [Act.put, List.setIfInBounds_toArray, List.set_cons_zero, List.set_cons_succ]
    refine readyL (rs := [4]) (by kernel_rfl) (by simp) ?_
    refine AllReadyL.cons rfl (fun K hK => ?_) AllReadyL.nil
    go_simp
    go_at_call 51
    refine (CloneR_is _ (pcAt rows x) _ ((HLR.out.2.below (BI.out.trans (B5.mono BI.out.size))).at_piece x.1 x.2 x.2 HPX.out.1 (Nat.le_refl _)) HPX.out.2.2).mono ?_
    rintro e w6 ⟨A6, c6, rfl, o6, b6⟩
    have B6 : Below Wi.heap.size Wi w6 := B5.trans (b6.mono B5.size)
    have o56 : KLb.Own w6 w5.heap.size (.slice A6 0 0) [] ∨ True := .inr trivial
    have p5 := (show KLb.Own w5 _ (.slice A5 labs.length c5) labs from o5).below b6
    refine hK.out _ _ (SC.out _ B6) ?_
    clear hK K o56
    try simp only [Act.put, List.setIfInBounds_toArray, List.set_cons_zero, List.set_cons_succ]
    refine takeL (i := 5) (d := 18) (v := .agg #[.slice A5 labs.length c5, .slice A6 (pcAt rows x).length c6]) rfl rfl (by kernel_rfl) (by kernel_rfl) (by kernel_rfl) (by kernel_rfl) (by kernel_rfl) (fun _ _ _ h => h) (Or.inl ⟨by rfl, fun wS hSw => by obtain ⟨s0, s1⟩ := hSw; go_simp⟩) (SC.out _ B6) ?_
    try simp only [List.setIfInBounds_toArray, List.set_cons_zero, List.set_cons_succ]
    refine readyL (rs := [6]) (by kernel_rfl) (by simp) ?_
    refine AllReadyL.cons rfl (fun K hK => ?_) AllReadyL.nil
    rw [if_pos (by rfl)]
    go_simp
    have B7 := B6.alloc B6.size (.cells #[.slice A5 labs.length c5, .slice A6 (pcAt rows x).length c6] 39)
    refine hK.out _ _ (SC.out _ B7) ?_
    clear hK K
    try simp only [Act.put, List.setIfInBounds_toArray, List.set_cons_zero, List.set_cons_succ]
    refine readyL (rs := [7]) (by kernel_rfl) (by simp) ?_
    refine AllReadyL.cons rfl (fun K hK => ?_) AllReadyL.nil
    refine Kd.step_app1 (K := KC 39) rfl (.tmp 13) (.tmp 19) 25 rfl Tryd.underlying25 infoC rfl W3.heap.size v m ⟨labs, A5, c5, pcAt rows x, A6, c6⟩ rfl (HO.out.1.below B7) w6.heap.size (heap_alloc_new w6 _) rfl (by have := HML.out; unfold maxLen; omega) (by have := HML.out; omega) (by have := BI2.out; have := B7.size; omega) ?_
    intro v8 w8 q8 b8 g8
    obtain ⟨A8, k8, hv8, _⟩ := q8.rd.form
    obtain ⟨n8, hn8⟩ : ∃ z, z = (m ++ [(⟨labs, A5, c5, pcAt rows x, A6, c6⟩ : CV)]).length := ⟨_, rfl⟩
    rw [← hn8] at hv8
    subst hv8
    have HN8 := hid hn8
    clear hn8
    have g8b : ∀ k, k < Wi.heap.size → some k ≠ v.ownBlock → w8.heap[k]? = Wi.heap[k]? := fun k hk hne => (g8.block k (by have := B7.size; omega) hne).trans (B7.block k hk)
    refine hK.out _ _ (SN.out _ g8b) ?_
    clear hK K
    try simp only [Act.put, List.setIfInBounds_toArray, List.set_cons_zero, List.set_cons_succ]
    have y8 := (g8b _ XL.out.2 XL.out.1).trans XB.out
    have c8 := held_cell (i := 0) y8 rfl
    have f8 := held_frozen (i := 0) y8
    have HY8 := hid y8
    refine readyL (rs := [8]) (by kernel_rfl) (by simp) ?_
    refine AllReadyL.last rfl (fun K hK => ?_)
    rw [if_pos (by rfl)]
    go_simp
    refine hK.out _ _ ?_
    clear hK K y8
    refine doneL (by kernel_rfl) ?_
    refine And.intro (fun h => (by cases h)) ?_
    gi_wp2
    have T8 : Tch (fun k => some k = v.ownBlock) Wi w8 := ⟨b8.os.trans B7.os, b8.tape.trans B7.tape, b8.output.trans B7.output, Nat.le_trans B7.size b8.size, fun k hk hne => g8b k hk hne⟩
    have z3' := HZ3.out
    have T9 : Tch (fun k => some k = v.ownBlock ∨ k = w.heap.size + 1) Wi (w8.setCell ⟨w.heap.size + 1, 0, none⟩ (.slice A8 n8 k8)) := (T8.mono (fun k h => .inl h)).trans (Tch.set (fun k => some k = v.ownBlock ∨ k = w.heap.size + 1) w8 ⟨w.heap.size + 1, 0, none⟩ _ (.inr rfl))
    have hown := HO.out.1.lt
    have KX : KeptS (fun k => k < w.heap.size ∨ k = w.heap.size + 1 + 1 ∨ k = w.heap.size + 1 + 1 + 1) W3.heap.size Wi (w8.setCell ⟨w.heap.size + 1, 0, none⟩ (.slice A8 n8 k8)) := KeptS.of_tch T9
      (fun k hk hn => by
        rcases hk with hk | hk
        · have := (hown k hk.symm).1
          omega
        · omega)
      (fun k hk o ho => by
        rcases hk with hk | hk
        · rcases HO.out.1.2 with ⟨hv, _⟩ | ⟨g, cap, cur, hv, _, hh, _⟩
          · rw [hv] at hk
            cases hk
          · rw [hv] at hk
            have e : k = g := by injection hk
            rw [e, hh] at ho
            injection ho with ho
            rw [← ho]
            rfl
        · rw [hk, XB.out] at ho
          injection ho with ho
          rw [← ho]
          rfl)
    have IX : I (pre ++ [x]) (w8.setCell ⟨w.heap.size + 1, 0, none⟩ (.slice A8 n8 k8)) := by
      rw [HI0.out]
      have b67 := (Below.refl w6.heap.size w6).alloc (Nat.le_refl _) (.cells #[.slice A5 labs.length c5, .slice A6 (pcAt rows x).length c6] 39)
      have hO8 : OwC 39 KRw w8 W3.heap.size (.slice A8 n8 k8) (m ++ [⟨labs, A5, c5, pcAt rows x, A6, c6⟩]) := OwC.more (by decide) (by decide) (HO.out.below B7) (fun q hq => by
        obtain rfl := List.mem_singleton.1 hq
        exact ⟨(p5.below b67).mono BI2.out, (o6.below b67).mono (Nat.le_trans BI2.out B5.size)⟩) q8 g8
      refine ⟨_, m ++ [⟨labs, A5, c5, pcAt rows x, A6, c6⟩], row_far ((g8b _ (row_lt XA.out.1) XA.out.2).trans XA.out.1) _ (by omega), row_set HY8.out _, hO8.set (by omega) 0 _, by rw [List.map_append, HM.out, List.map_append]; rfl, Below.setCell ((BI.out.trans (B7.mono BI.out.size)).trans (b8.mono (by omega))) (by show w.heap.size ≤ w.heap.size + 1; omega) _, by have h7 := B7.size; have h8 := b8.size; have h9 := BI2.out; simp [World.setCell]; omega⟩
    clear T8 z3' T9 hown c8 f8 B5 b5 B6 b6 p5 o5 o6 B7 q8 b8 g8 g8b
    gi_wp2
    exact ⟨KX, IX⟩
  case done =>
    rintro D Wi hD hI hK
    rw [HI0.out] at hI
    obtain ⟨v, m, h1, h2, h3, h4, h5, h6⟩ := hI
    obtain ⟨A8, k8, rfl, _⟩ := h3.1.rd.form
    have c8 := held_cell (i := 0) h2 rfl
    have hst : Stl w.heap.size Wi (Wi.putObj D (.deferred none)) := Stl.putObj _ hK rfl (by have := HZ3.out; omega)
    have FIN : Hid (OwC 39 KRw (Wi.putObj D (.deferred none)) w.heap.size (.slice A8 m.length k8) m ∧ m.map CV.bare = cutC labs rows n ∧ Below w.heap.size w (Wi.putObj D (.deferred none))) := hid ⟨(h3.stl hst).mono (by have := HZ3.out; omega), h4, Tch.below h5 hst.1 (fun j hj => hj) h5.size⟩
    clear h1 h2 h3 h4 h5 h6 hseq hst
    unfold markD
    go_wp2
    refine ⟨by simp, .inl ⟨_, _, rfl, run_takeDeferred hK, ?_⟩⟩
    exact ⟨_, results_tmp rfl _ _ _, .slice A8 m.length k8, m, rfl, FIN.out.1, FIN.out.2.1, FIN.out.2.2⟩
  case stop =>
    rintro D Wi hD hI hK
    exact hI.elim
end Go.Proofs.YtaoeabnpmpimgaaDoor
end
section
namespace Go.Icz
open Go.RowKit
/-- The pieces of a chunk. -/
def splC (labs : List Lab) (rows : List CRow) (most : Int) : List (List Lab × List CRow) := if 1 ≤ most ∧ chR labs rows = true then cutC labs rows most.toNat else []
theorem posL_min {n L i : Nat} (hn : 1 ≤ n) (hi : i < L) : posL n L (i + min n (L - i)) = posL n L (i + n) := by
  rcases Nat.lt_or_ge (L - i) n with h | h
  · rw [posL_nil (by omega), posL_nil (by omega)]
  · rw [Nat.min_eq_left h]
end Go.Icz
namespace Go.Proofs.YtaoeabnpmpimgaaDoor
open Go.RowKit Go.Icz Go.Shelf
attribute [local go_sem] Oper.semAt_some
set_option maxRecDepth 100000
set_option maxHeartbeats 4000000
theorem infoRr : (Tryd.prog.info? 46).map (fun i => (i.zero, i.size, i.bytes)) = some (some (.agg #[.int .i64 0, .int .i64 0, .string ⟨#[]⟩]), 3, 32) := by kernel_rfl
theorem infoCr : (Tryd.prog.info? 35).map (fun i => (i.zero, i.size, i.bytes)) = some (some (.agg #[.slice none 0 0, .slice none 0 0]), 2, 48) := by kernel_rfl
theorem Split_is (labs : List Lab) (rows : List CRow) (A A2 : Option Addr) (C C2 : Nat) (most : Int) (w : World) (hL : RdL w (.slice A labs.length C) labs) (hR : KRw.Rd w (.slice A2 rows.length C2) rows) (hT : Tabs w) (hz : ∀ x ∈ rows, entZ (entC labs x)) (hln : rows.length ≤ 4611686018427387904) (hlz : labs.length * 32 ≤ 140737488351232) (hmx : most ≤ 9223372036854775807) :
    Calls Tryd.prog 11 #[.agg #[.slice A labs.length C, .slice A2 rows.length C2], .int .i64 most] w (PcOut (splC labs rows most) w) := by
  have b0 : Below w.heap.size w (w.alloc (.cells #[.slice A labs.length C, .slice A2 rows.length C2] 39)) := (Below.refl _ w).alloc (Nat.le_refl _) _
  have HB := hid b0
  by_cases h1 : 1 ≤ most
  · have hr := CRight_is labs rows A A2 C C2 _ (hL.below b0) (hR.below b0) (hT.below b0) hz hln
    cases hf : chR labs rows
    · have hv : splC labs rows most = [] := by unfold splC; rw [hf]; simp
      rw [hf] at hr
      rw [hv]
      clear hL hR hT hz hf b0 hln hv hlz hmx
      go_enter Tryd.func11, Tryd.ntmps11
      go_wp2_with (go_at_call 14; refine hr.mono ?_; rintro e w1 ⟨rfl, b1⟩; clear hr)
      go_ret
      exact ⟨_, [], rfl, OwC.nil _ _ _ _, rfl, HB.out.trans (b1.mono HB.out.size)⟩
    · obtain ⟨⟨n1, n2⟩, -⟩ := (chR_iff labs rows).1 hf
      have hv : splC labs rows most = cutC labs rows most.toNat := by unfold splC; rw [if_pos ⟨h1, hf⟩]
      have hm : most = ((most.toNat : Nat) : Int) := by omega
      have hP := fun wx (b : Below w.heap.size w wx) => pieces_is labs rows A A2 C C2 most.toNat wx (hL.below b) (hR.below b) hlz (by omega) (by omega) n1 (by omega) (by omega)
      rw [← hm] at hP
      rw [hf] at hr
      rw [hv]
      have x0 := heap_alloc_new w (.cells #[.slice A labs.length C, .slice A2 rows.length C2] 39)
      unfold PcOut at hP
      have HP := hid hP
      have cl : ∀ w1, Below (w.alloc (.cells #[.slice A labs.length C, .slice A2 rows.length C2] 39)).heap.size (w.alloc (.cells #[.slice A labs.length C, .slice A2 rows.length C2] 39)) w1 → w1.cell? ⟨w.heap.size, 0, none⟩ = some (.slice A labs.length C) ∧ w1.cell? ⟨w.heap.size, 1, none⟩ = some (.slice A2 rows.length C2) := fun w1 b1 => by
        have y := (b1.block _ (row_lt x0)).trans x0
        exact ⟨held_cell y rfl, held_cell y rfl⟩
      have HCL := hid cl
      clear hL hR hT hz hf b0 hln hv hlz hmx hm hP x0 cl n1 n2
      go_enter Tryd.func11, Tryd.ntmps11
      go_wp2_with (first
        | (go_at_call 14; refine hr.mono ?_; rintro e w1 ⟨rfl, b1⟩; obtain ⟨e0, e1⟩ := HCL.out _ b1; have bw1 := HB.out.trans (b1.mono HB.out.size); have hP1 := HP.out w1 bw1; clear hr b1)
        | (go_at_call 26; refine hP1.mono ?_; rintro e w2 ⟨v2, m2, rfl, o2, hm2, b2⟩; clear hP1))
      obtain ⟨A8, k8, rfl, _⟩ := o2.1.rd.form
      go_ret
      exact ⟨_, m2, rfl, o2.mono bw1.size, hm2, bw1.trans (b2.mono bw1.size)⟩
  · have hv : splC labs rows most = [] := by unfold splC; rw [if_neg (fun h => h1 h.1)]
    have h2 : most < 1 := by omega
    rw [hv]
    clear hL hR hT hz b0 hln hv hlz hmx
    go_enter Tryd.func11, Tryd.ntmps11
    go_wp2
    go_ret
    exact ⟨_, [], rfl, OwC.nil _ _ _ _, rfl, HB.out⟩
/-- It answers these chunks in memory of their own. -/
def RcOut (L : List (List Lab × List CRow)) (w : World) (e : Ending) (w' : World) : Prop := ∃ v m, e = .returned v ∧ OwC 35 KRr w' w.heap.size v m ∧ m.map CV.bare = L ∧ Below w.heap.size w w'
end Go.Proofs.YtaoeabnpmpimgaaDoor
end
section
namespace Go.Icz
open Go.RowKit Go
/-- The chunk's rows lie in a block of the call's own. -/
theorem Tch.trans' {S T : Nat → Prop} {a b c : World} (h : Tch S a b) (k : Tch T b c) (hT : ∀ j, T j → S j) : Tch S a c := h.trans (k.mono hT)
def RwB (w : World) (B : Nat) (x : CV) : Prop := x.rows = [] ∨ ∃ g cap cur, x.A2 = some ⟨g, 0, none⟩ ∧ x.c2 = cap ∧ w.heap[g]? = some (.cells cur 45 (0, 0)) ∧ cur.size = cap * 3 ∧ x.rows.length ≤ cap ∧ B ≤ g
theorem RwB.of {w : World} {B : Nat} {x : CV} (h : KRw.Own w B x.r x.rows) : RwB w B x := by
  rcases h.2 with ⟨_, hn⟩ | ⟨g, cap, cur, hv, hg, hh, hnc, _, hcs, _⟩
  · exact .inl (List.eq_nil_of_length_eq_zero hn)
  · injection hv with e1 e2 e3
    exact .inr ⟨g, cap, cur, e1, e3, hh, hcs, hnc, hg⟩
/-- Blocks of rows from B on. -/
def isRow (w : World) (B k : Nat) : Prop := B ≤ k ∧ ∃ cur, w.heap[k]? = some (.cells cur 45 (0, 0))
/-- What has turned are rows from B on. -/
structure RT (B : Nat) (w w' : World) : Prop where
  tch : Tch (isRow w B) w w'
  keep : ∀ k cur, B ≤ k → w.heap[k]? = some (.cells cur 45 (0, 0)) → ∃ cur', w'.heap[k]? = some (.cells cur' 45 (0, 0)) ∧ cur'.size = cur.size
theorem RT.refl (B : Nat) (w : World) : RT B w w := ⟨Tch.refl _ w, fun _ cur _ h => ⟨cur, h, rfl⟩⟩
theorem RT.set {B : Nat} {w w' : World} (h : RT B w w') {g : Nat} (hg : isRow w B g) (i : Nat) (u : Value) : RT B w (w'.setCell ⟨g, i, none⟩ u) := by
  refine ⟨h.tch.trans' (Tch.set (· = g) w' ⟨g, i, none⟩ u rfl) (fun k e => by rw [e]; exact hg), fun k cur hB hk => ?_⟩
  obtain ⟨cur', hc, hs⟩ := h.keep k cur hB hk
  by_cases e : k = g
  · subst e
    exact ⟨_, row_set hc u, by simpa using hs⟩
  · exact ⟨cur', row_far hc u e, hs⟩
theorem RT.below {B : Nat} {w w' : World} (h : RT B w w') (hB : B ≤ w.heap.size) : Below B w w' := Tch.below (Below.refl B w) h.tch (fun j hj => hj.1) hB
end Go.Icz
namespace Go.Proofs.YtaoeabnpmpimgaaDoor
open Go.RowKit Go.Icz Go.Shelf
attribute [local go_sem] Oper.semAt_some
set_option maxRecDepth 100000
set_option maxHeartbeats 4000000
theorem CSames_refl (v1 v2 : Value) (l1 l2 : List CV) (w : World) (h1 : RdC 39 KRw w v1 l1) (h2 : RdC 35 KRr w v2 l2) (he : l1.map CV.bare = l2.map CV.bare) (hm : ∀ x ∈ l1, x.labs.length ≤ 4611686018427387904 ∧ x.rows.length ≤ 4611686018427387904) (hlen : l1.length ≤ 4611686018427387904) :
    Calls Tryd.prog 6 #[v1, v2] w fun e w' => e = .returned (.bool true) ∧ Below w.heap.size w w' := by
  have hll : l2.length = l1.length := by have := congrArg List.length he; simpa using this.symm
  obtain ⟨A, c, rfl, hlc⟩ := h1.1.form
  obtain ⟨A2, c2, rfl, hlc2⟩ := h2.1.form
  rw [hll] at hlc2 h2
  rw [hll]
  have H1 := hid h1
  have H2 := hid h2
  have HE := hid he
  have HM := hid hm
  have HLL := hid hll
  clear h1 h2 he hm hll hlc hlc2
  go_enter Tryd.func6, Tryd.ntmps6
  go_wp2
  go_loopw [5] (fun iv wr => ∃ i : Nat, iv = .int .i64 (i : Int) ∧ Hid (i ≤ l1.length) ∧ Hid (Below w.heap.size w wr)) (fun iv _ => l1.length - (intOf iv).toNat)
  case atStart => exact ⟨0, rfl, hid (Nat.zero_le _), hid (Below.refl _ _)⟩
  case round =>
    obtain ⟨i, rfl, hi, HW⟩ := hrel
    by_cases hlt : i < l1.length
    · have hlt2 : i < l2.length := by rw [HLL.out]; exact hlt
      have hii : (i : Int) < (l1.length : Int) := by omega
      obtain ⟨b, off, hA, hb, hc⟩ := H1.out.1.at hlt
      have h2' := H2.out.1
      obtain ⟨b2, off2, hA2, hb2, hc2⟩ := (show (KC 35).Rd w (.slice A2 l1.length c2) l2 from h2').at hlt2
      subst hA hA2
      have hx := H1.out.2 l1[i] (List.getElem_mem hlt)
      have hy := H2.out.2 l2[i] (List.getElem_mem hlt2)
      have hbare : (l1[i]).labs = (l2[i]).labs ∧ (l1[i]).rows = (l2[i]).rows := by
        have h3 : (l1.map CV.bare)[i]? = (l2.map CV.bare)[i]? := by rw [HE.out]
        rw [List.getElem?_map, List.getElem?_map, List.getElem?_eq_getElem hlt, List.getElem?_eq_getElem hlt2] at h3
        simp only [Option.map_some, Option.some.injEq, Prod.mk.injEq] at h3
        exact h3
      have q0 : w.cell? ⟨b, off + i * 2, none⟩ = some (l1[i]).l := hc 0 _ (by decide) rfl
      have q1 : w.cell? ⟨b, off + i * 2 + 1, none⟩ = some (l1[i]).r := hc 1 _ (by decide) rfl
      have p0 : w.cell? ⟨b2, off2 + i * 2, none⟩ = some (l2[i]).l := hc2 0 _ (by decide) rfl
      have p1 : w.cell? ⟨b2, off2 + i * 2 + 1, none⟩ = some (l2[i]).r := hc2 1 _ (by decide) rfl
      have hmx := HM.out l1[i] (List.getElem_mem hlt)
      generalize l1[i] = x at *
      generalize l2[i] = y at *
      obtain ⟨labs, xA, xc, rows, xA2, xc2⟩ := x
      obtain ⟨labs', yA, yc, rows', yA2, yc2⟩ := y
      simp only [] at hbare hx hy q0 q1 p0 p1 hmx
      obtain ⟨rfl, rfl⟩ := hbare
      have mkS : ∀ wS, Below w.heap.size w wS → Below w.heap.size w wS ∧ wS.cell? ⟨b, off + i * 2, none⟩ = some (.slice xA labs.length xc) ∧ wS.cell? ⟨b, off + i * 2 + 1, none⟩ = some (.slice xA2 rows.length xc2) ∧ wS.cell? ⟨b2, off2 + i * 2, none⟩ = some (.slice yA labs.length yc) ∧ wS.cell? ⟨b2, off2 + i * 2 + 1, none⟩ = some (.slice yA2 rows.length yc2) := fun wS h =>
        ⟨h, (h.cell (p := ⟨b, off + i * 2, none⟩) hb).trans q0, (h.cell (p := ⟨b, off + i * 2 + 1, none⟩) hb).trans q1, (h.cell (p := ⟨b2, off2 + i * 2, none⟩) hb2).trans p0, (h.cell (p := ⟨b2, off2 + i * 2 + 1, none⟩) hb2).trans p1⟩
      have hk := mkS wr.drew HW.out.drew
      have HMK := hid mkS
      have hS := fun wS (h : Below w.heap.size w wS) => CSame_refl labs rows xA xA2 yA yA2 xc xc2 yc yc2 wS (hx.1.below h) (hx.2.below h) (hy.1.below h) (hy.2.below h) hmx.1 hmx.2
      have HIL := hid hlt
      have hi2 : (i : Int) + 1 ≤ 4611686018427387904 := by omega
      clear mkS hx hy q0 q1 p0 p1 hmx hc hc2 hb hb2 hlt hlt2 h2'
      go_wp2_with fail
      go_region_held3 (fun wS => Below w.heap.size w wS ∧ wS.cell? ⟨b, off + i * 2, none⟩ = some (.slice xA labs.length xc) ∧ wS.cell? ⟨b, off + i * 2 + 1, none⟩ = some (.slice xA2 rows.length xc2) ∧ wS.cell? ⟨b2, off2 + i * 2, none⟩ = some (.slice yA labs.length yc) ∧ wS.cell? ⟨b2, off2 + i * 2 + 1, none⟩ = some (.slice yA2 rows.length yc2)) (exact hk)
        (first | (go_at_call 16; refine (hS _ hk.1).mono ?_; rintro e w1 ⟨rfl, b1⟩; have hk := HMK.out _ (hk.1.trans (b1.mono hk.1.size))))
      go_wp2_with fail
      go_roundw
      case rel => exact ⟨i + 1, by go_num, HIL, hid hk.1⟩
      case measure => have h9 := HIL.out; simp [intOf]; omega
    · have hii : ¬ (i : Int) < (l1.length : Int) := by omega
      clear hlt
      go_wp2
      go_ret
      exact ⟨rfl, HW.out⟩
end Go.Proofs.YtaoeabnpmpimgaaDoor
end
