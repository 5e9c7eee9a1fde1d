/-
  Lists of entries in memory; which may be a batch: what record.rightBatch answers. Conditions: those that each theorem names.
  What the law's All answers: the entries in memory of their own. Conditions: the entries can be read; sizes as each theorem names.
  What the law's All answers, and a list of entries that came in, opened. Conditions: the entries can be read; sizes as each theorem names.
-/
import Derived.Test.YtaoeabnpmpimgaaDoorEntKnow
import Derived.Deep.Slices
section
namespace Go.Icz
open Go.RowKit
/-- The slice v reads as the entries l. -/
def RdE (w : World) (v : Value) (l : List Ent) : Prop :=
  ∃ A c, v = .slice A l.length c ∧ l.length ≤ c ∧ (0 < l.length → ∃ b off, A = some ⟨b, off, none⟩ ∧ b < w.heap.size ∧
    ∀ j (hj : j < l.length), ∃ A' c', w.cell? ⟨b, off + j * 4, none⟩ = some (.int .i64 (l[j]).seq) ∧ w.cell? ⟨b, off + j * 4 + 1, none⟩ = some (.int .i64 (l[j]).time) ∧ w.cell? ⟨b, off + j * 4 + 2, none⟩ = some (.slice A' (l[j]).labs.length c') ∧ w.cell? ⟨b, off + j * 4 + 3, none⟩ = some (.string ⟨(l[j]).line.toArray⟩) ∧ RdL w (.slice A' (l[j]).labs.length c') (l[j]).labs)
theorem RdE.below {w w' : World} {v : Value} {l : List Ent} (h : RdE w v l) (hb : Below w.heap.size w w') : RdE w' v l := by
  obtain ⟨A, c, hv, hc, hr⟩ := h
  refine ⟨A, c, hv, hc, fun h0 => ?_⟩
  obtain ⟨b, off, hA, hlt, hcell⟩ := hr h0
  refine ⟨b, off, hA, Nat.lt_of_lt_of_le hlt hb.size, fun j hj => ?_⟩
  obtain ⟨A', c', h0, h1, h2, h3, h4⟩ := hcell j hj
  exact ⟨A', c', (hb.cell (p := ⟨b, off + j * 4, none⟩) hlt).trans h0, (hb.cell (p := ⟨b, off + j * 4 + 1, none⟩) hlt).trans h1, (hb.cell (p := ⟨b, off + j * 4 + 2, none⟩) hlt).trans h2, (hb.cell (p := ⟨b, off + j * 4 + 3, none⟩) hlt).trans h3, h4.below hb⟩
def batC (p : Option Int) : List Ent → Bool
  | [] => true
  | x :: t => entR x && (match p with | none => true | some s => decide (x.seq = s + 1)) && batC (some x.seq) t
def prevS (l : List Ent) (k : Nat) : Option Int := if k = 0 then none else some (l.getD (k - 1) ⟨0, 0, [], []⟩).seq
/-- May the entries be a batch? -/
def batR (l : List Ent) : Bool := decide (1 ≤ l.length ∧ l.length ≤ 16) && batC none l
end Go.Icz
namespace Go.Proofs.YtaoeabnpmpimgaaDoor
open Go.RowKit Go.Icz
end Go.Proofs.YtaoeabnpmpimgaaDoor
end
section
namespace Go.Icz
open Go.RowKit
def cellsM (m : List (Ent × Value)) : List Value := m.flatMap fun p => [.int .i64 p.1.seq, .int .i64 p.1.time, p.2, .string ⟨p.1.line.toArray⟩]
theorem cellsM_len (m : List (Ent × Value)) : (cellsM m).length = m.length * 4 := by
  induction m with
  | nil => rfl
  | cons p t ih => simp only [cellsM, List.flatMap_cons, List.length_append, List.length_cons, List.length_nil] at *; omega
theorem cellsM_app (m n : List (Ent × Value)) : cellsM (m ++ n) = cellsM m ++ cellsM n := by simp [cellsM, List.flatMap_append]
theorem cellsM_get : ∀ (m : List (Ent × Value)) (j : Nat) (hj : j < m.length), (cellsM m)[j * 4]? = some (.int .i64 (m[j]).1.seq) ∧ (cellsM m)[j * 4 + 1]? = some (.int .i64 (m[j]).1.time) ∧ (cellsM m)[j * 4 + 2]? = some (m[j]).2 ∧ (cellsM m)[j * 4 + 3]? = some (.string ⟨(m[j]).1.line.toArray⟩)
  | [], j, hj => absurd hj (by simp)
  | p :: t, 0, _ => ⟨rfl, rfl, rfl, rfl⟩
  | p :: t, j + 1, hj => by
    have h := cellsM_get t j (by simpa using hj)
    have e : cellsM (p :: t) = [.int .i64 p.1.seq, .int .i64 p.1.time, p.2, .string ⟨p.1.line.toArray⟩] ++ cellsM t := rfl
    rw [e]
    have k : ∀ i, ([.int .i64 p.1.seq, .int .i64 p.1.time, p.2, .string ⟨p.1.line.toArray⟩] ++ cellsM t)[i + 4]? = (cellsM t)[i]? := fun i => by
      rw [List.getElem?_append_right (by simp)]; simp
    rw [show (j + 1) * 4 = j * 4 + 4 by omega, show j * 4 + 4 + 1 = j * 4 + 1 + 4 by omega, show j * 4 + 4 + 2 = j * 4 + 2 + 4 by omega, show j * 4 + 4 + 3 = j * 4 + 3 + 4 by omega]
    simp only [k, List.getElem_cons_succ]
    exact h
/-- Entries in a row of their own; the labels of each in rows of their own. -/
def OwnE (w : World) (B : Nat) (v : Value) (m : List (Ent × Value)) : Prop :=
  w.ownsRow B 50 4 v m.length (cellsM m) ∧ ∀ p ∈ m, OwnL w B p.2 p.1.labs
theorem OwnE.nil (w : World) (B : Nat) : OwnE w B (.slice none 0 0) [] := ⟨World.ownsRow_nil w B 50 4, by simp⟩
theorem OwnE.below {w w' : World} {B : Nat} {v : Value} {m : List (Ent × Value)} (h : OwnE w B v m) (hb : Below w.heap.size w w') : OwnE w' B v m := by
  refine ⟨World.ownsRow.kept (row := none) h.1 ⟨hb.os, hb.tape, hb.output, hb.size, fun k hk _ => hb.block k hk⟩ ?_, fun p hp => (h.2 p hp).below hb⟩
  cases hv : v.ownBlock <;> simp
theorem OwnE.rd {w : World} {B : Nat} {v : Value} {m : List (Ent × Value)} (h : OwnE w B v m) : RdE w v (m.map (·.1)) := by
  obtain ⟨h, hl⟩ := h
  rcases h.2 with ⟨hv, hn⟩ | ⟨g, cap, cur, hv, hg, hh, hnc, r⟩
  · exact ⟨none, 0, by rw [hv, List.length_map, hn], by rw [List.length_map]; omega, fun h0 => absurd hn (by rw [List.length_map] at h0; omega)⟩
  · refine ⟨_, cap, by rw [List.length_map]; exact hv, by rw [List.length_map]; exact hnc, fun _ => ⟨g, 0, rfl, (Array.getElem?_eq_some_iff.1 hh).1, fun j hj => ?_⟩⟩
    rw [List.length_map] at hj
    have hgt := cellsM_get m j hj
    have hlab := hl m[j] (List.getElem_mem hj)
    obtain ⟨A', c', hA, hc, _⟩ := id hlab.rd
    have cell := fun k u (hk : (cellsM m)[k]? = some u) => World.ownsRow.cells h (g := g) (by rw [hv]; rfl) k u hk
    simp only [List.getElem_map]
    refine ⟨A', c', ?_, ?_, ?_, ?_, by rw [← hA]; exact hlab.rd⟩
    · rw [← add_flat]; exact cell _ _ hgt.1
    · rw [Nat.add_assoc, ← add_flat]; exact cell _ _ hgt.2.1
    · rw [Nat.add_assoc, ← add_flat, ← hA]; exact cell _ _ hgt.2.2.1
    · rw [Nat.add_assoc, ← add_flat]; exact cell _ _ hgt.2.2.2
/-- Labels do not lie in the entries' row. -/
theorem OwnL.apart {w w' : World} {B B' n : Nat} {v u : Value} {cs : List Value} {l : List Lab} (h : OwnL w B u l) (hrow : w.ownsRow B' 50 4 v n cs) (hg : w.grownBy w' v.ownBlock) : OwnL w' B u l := by
  refine World.ownsRow.kept h hg ?_
  rcases h.2 with ⟨rfl, _⟩ | ⟨k, cap, cur, rfl, _, hh, _⟩
  · exact .inl rfl
  · right
    intro e
    rcases hrow.2 with ⟨rfl, _⟩ | ⟨k2, cap2, cur2, rfl, _, hh2, _⟩
    · simp [Value.ownBlock] at e
    · simp only [Value.ownBlock, Option.some.injEq] at e
      subst e
      rw [hh] at hh2
      injection hh2 with hh2
      injection hh2 with _ h2 _
      exact absurd h2 (by decide)
end Go.Icz
namespace Go.Proofs.YtaoeabnpmpimgaaDoor
open Go.RowKit Go.Icz
theorem infoE : (Tryd.prog.info? 50).map (fun i => (i.zero, i.size, i.bytes)) = some (some (.agg #[.int .i64 0, .int .i64 0, .slice none 0 0, .string ⟨#[]⟩]), 4, 56) := by kernel_rfl
set_option maxHeartbeats 2000000 in
set_option maxRecDepth 100000 in
/-- 'append(v, x)' of one entry. -/
theorem wp_appE {ops : Array Oper} {rest : List Oper} {o : Oper} {a : Act} {Q : Exit → Act → World → Prop} {w : World} (hgd : o.guard = none) (s x : Operand)
    (ho : o.op = .call { callee := .builtin .append, args := #[s, x], argTypes := #[22, 22] })
    (B : Nat) (v : Value) (m : List (Ent × Value)) (p : Ent × Value) (A : Option Addr) (cl : Nat) (hp2 : p.2 = .slice A p.1.labs.length cl) (hs : a.eval s = v) (hown : OwnE w B v m) (hlab : OwnL w B p.2 p.1.labs)
    (hx : a.eval x = .slice (some ⟨w.heap.size, 0, none⟩) 1 1)
    (hlen : (m.length + 1) * 56 ≤ 140737488355328) (hB : B ≤ w.heap.size)
    (h : ∀ v' w', OwnE w' B v' (m ++ [p]) → Below B (w.alloc (.cells #[.int .i64 p.1.seq, .int .i64 p.1.time, p.2, .string ⟨p.1.line.toArray⟩] 50)) w' → wpList Tryd.prog ops Q rest (a.put o.dst v') w') :
    wpList Tryd.prog ops Q (o :: rest) a (w.alloc (.cells #[.int .i64 p.1.seq, .int .i64 p.1.time, p.2, .string ⟨p.1.line.toArray⟩] 50)) := by
  obtain ⟨i0, hi, hz0, hz1, hz2⟩ := info_parts infoE
  have hb1 := (Below.refl w.heap.size w).alloc (Nat.le_refl _) (.cells #[.int .i64 p.1.seq, .int .i64 p.1.time, p.2, .string ⟨p.1.line.toArray⟩] 50)
  have hown1 := hown.below hb1
  have hlab1 := hlab.below hb1
  have hnew := heap_alloc_new w (.cells #[.int .i64 p.1.seq, .int .i64 p.1.time, p.2, .string ⟨p.1.line.toArray⟩] 50)
  refine wpList_append_own _ hgd s x 22 ho B 50 i0 (.agg #[.int .i64 0, .int .i64 0, .slice none 0 0, .string ⟨#[]⟩]) 4 56 Tryd.underlying22 hi hz0 hz1 hz2 rfl (by decide) v m.length (cellsM m) hs hown1.1 ⟨w.heap.size, 0, none⟩ 1 1 [.int .i64 p.1.seq, .int .i64 p.1.time, p.2, .string ⟨p.1.line.toArray⟩] hx rfl ?_ ?_ ?_ hlen (Nat.le_trans hB (by simp)) ?_
  · intro j u hu
    rw [add_flat]
    match j, hu with
    | 0, hu => injection hu with hu; subst hu; exact held_cell hnew rfl
    | 1, hu => injection hu with hu; subst hu; exact held_cell hnew rfl
    | 2, hu => injection hu with hu; subst hu; exact held_cell hnew rfl
    | 3, hu => injection hu with hu; subst hu; exact held_cell hnew rfl
    | j + 4, hu => simp at hu
  · intro u hu
    simp only [List.mem_cons, List.not_mem_nil, or_false] at hu
    rcases hu with rfl | rfl | rfl | rfl
    · rfl
    · rfl
    · rw [hp2]; rfl
    · rfl
  · unfold maxLen; omega
  · intro v' w' h1 h2 _
    refine h v' w' ⟨?_, ?_⟩ ((Below.refl B _).grown h2 (Nat.le_trans hB (by simp)) (fun k hk => (World.ownsRow.lt hown1.1 k hk).1))
    · rw [cellsM_app, List.length_append]; exact h1
    · intro q hq
      rcases List.mem_append.1 hq with hq | hq
      · exact OwnL.apart (hown1.2 q hq) hown1.1 h2
      · obtain rfl := List.mem_singleton.1 hq
        exact OwnL.apart hlab1 hown1.1 h2
end Go.Proofs.YtaoeabnpmpimgaaDoor
end
section
namespace Go.Proofs.YtaoeabnpmpimgaaDoor
open Go.RowKit Go.Icz
/-- It answers a list that reads as l, in new memory. -/
def AllOut (l : List Ent) (w : World) (e : Ending) (w' : World) : Prop := ∃ v, e = .returned v ∧ RdE w' v l ∧ Below w.heap.size w w'
set_option maxHeartbeats 4000000 in
set_option maxRecDepth 100000 in
theorem EAll_is (v : Value) (l : List Ent) (w : World) (hR : RdE w v l) (hz : ∀ x ∈ l, entZ x) (hlen : l.length * 56 ≤ 140737488351232) :
    Calls Tryd.prog 5 #[v] w (AllOut l w) := by
  obtain ⟨A, c, rfl, hlc, hcell⟩ := hR
  go_enter Tryd.func5, Tryd.ntmps5
  go_wp2
  go_loopw [3, 4] (fun ov iv wr => ∃ (i : Nat) (m : List (Ent × Value)), iv = .int .i64 i ∧ i ≤ l.length ∧ OwnE wr w.heap.size ov m ∧ Hid (m.map (·.1) = l.take i ∧ m.length = i) ∧ Below w.heap.size w wr) (fun _ iv _ => l.length - (intOf iv).toNat)
  case atStart => exact ⟨0, [], rfl, by omega, OwnE.nil _ _, hid ⟨by simp, rfl⟩, Below.refl _ _⟩
  case round =>
    obtain ⟨i, m, rfl, hi, ho, HM, hbw⟩ := hrel
    by_cases hlt : i < l.length
    · obtain ⟨b, off, rfl, hb, hcell⟩ := hcell (by omega)
      obtain ⟨A', c', q0, q1, q2, q3, rl⟩ := hcell i hlt
      have q0 := (hbw.cell (p := ⟨b, off + i * 4, none⟩) hb).trans q0
      have q1 := (hbw.cell (p := ⟨b, off + i * 4 + 1, none⟩) hb).trans q1
      have q2 := (hbw.cell (p := ⟨b, off + i * 4 + 2, none⟩) hb).trans q2
      have q3 := (hbw.cell (p := ⟨b, off + i * 4 + 3, none⟩) hb).trans q3
      have rl := rl.below hbw
      have hxz := hz l[i] (List.getElem_mem hlt)
      have HT : Hid (l.take (i + 1) = l.take i ++ [l[i]]) := hid (List.take_succ_eq_append_getElem hlt)
      have hml : (m.length + 1) * 56 ≤ 140737488355328 := by have := HM.out.2; omega
      clear hcell hz
      generalize l[i] = x at *
      have hO := EOwn_is x A' c' wr rl hxz.1
      clear hxz rl
      unfold EntOut entV at hO
      have hwz := hbw.size
      go_wp2_with (first
        | (go_at_call 19; refine hO.mono ?_; rintro e w1 ⟨A1, c1, rfl, ol, b1⟩; have o1 := ho.below b1; have ol1 := ol.mono hwz; have bw1 := hbw.trans (b1.mono hwz); have z1 := Nat.le_trans hwz b1.size; clear hO ho ol)
        | (at_builtin; go_loud (refine wp_appE rfl (.tmp 11) (.tmp 17) rfl w.heap.size _ m (x, .slice A1 x.labs.length c1) A1 c1 rfl rfl o1 ol1 rfl hml z1 ?_; intro v5 w5 o5 b5)))
      go_roundw
      case rel => exact ⟨i + 1, m ++ [(x, .slice A1 x.labs.length c1)], by go_num, by omega, o5, hid ⟨by rw [List.map_append, HM.out.1, HT.out]; rfl, by rw [List.length_append, HM.out.2]; rfl⟩, bw1.trans (below_allocT z1 b5)⟩
      case measure => simp [intOf]; omega
    · have him : i = l.length := by omega
      have HM2 : Hid (m.map (·.1) = l) := hid (by rw [HM.out.1, him, List.take_length])
      clear hcell HM hlt
      go_wp2
      go_ret
      exact ⟨_, rfl, by have h := ho.rd; rw [HM2.out] at h; exact h, hbw⟩
end Go.Proofs.YtaoeabnpmpimgaaDoor
end
