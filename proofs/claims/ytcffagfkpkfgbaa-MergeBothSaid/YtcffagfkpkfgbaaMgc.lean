/-
  Entries copied: each with labels of its own; lists of entries in memory of their own. Conditions: those that each theorem names.
-/
import Derived.Test.YtcffagfkpkfgbaaMgk
import Derived.Lib.SliceRun
namespace Go.Icz
open Go.RowKit
theorem Kd.Own.apart {α β : Type} {K : Kd α} {K' : Kd β} (he : K.e ≠ K'.e) {w w' : World} {B B' : Nat} {u v : Value} {m : List α} {l : List β} (h : K.Own w B u m) (hrow : K'.Own w B' v l) (hg : w.grownBy w' v.ownBlock) : K.Own w' B u m := by
  refine World.ownsRow.kept h hg ?_
  rcases h.2 with ⟨rfl, _⟩ | ⟨k, cap, cur, rfl, _, hh, _⟩
  · exact .inl rfl
  · right
    intro e
    rcases hrow.2 with ⟨rfl, _⟩ | ⟨k2, cap2, cur2, rfl, _, hh2, _⟩
    · simp [Value.ownBlock] at e
    · simp only [Value.ownBlock, Option.some.injEq] at e
      subst e
      rw [hh] at hh2
      injection hh2 with hh2
      injection hh2 with _ h2 _
      exact absurd h2 he
/-- The slice v reads as the entries l. -/
def RdE (w : World) (v : Value) (l : List EV) : Prop := KEnt.Rd w v l ∧ ∀ x ∈ l, KLab.Rd w (lbV x) x.1.labs
/-- The slice v, of the call's own memory, holds the entries l, with labels of their own. -/
def OwE (w : World) (B : Nat) (v : Value) (l : List EV) : Prop := KEnt.Own w B v l ∧ ∀ x ∈ l, KLab.Own w B (lbV x) x.1.labs
theorem RdE.below {w w' : World} {v : Value} {l : List EV} (h : RdE w v l) (hb : Below w.heap.size w w') : RdE w' v l := ⟨h.1.below hb, fun x hx => (h.2 x hx).below hb⟩
theorem OwE.below {w w' : World} {B : Nat} {v : Value} {l : List EV} (h : OwE w B v l) (hb : Below w.heap.size w w') : OwE w' B v l := ⟨h.1.below hb, fun x hx => (h.2 x hx).below hb⟩
theorem OwE.mono {w : World} {B B' : Nat} {v : Value} {l : List EV} (h : OwE w B v l) (hB : B' ≤ B) : OwE w B' v l := ⟨h.1.mono hB, fun x hx => (h.2 x hx).mono hB⟩
theorem OwE.rd {w : World} {B : Nat} {v : Value} {l : List EV} (h : OwE w B v l) : RdE w v l := ⟨h.1.rd, fun x hx => (h.2 x hx).rd⟩
theorem OwE.nil (w : World) (B : Nat) : OwE w B (.slice none 0 0) [] := ⟨Kd.Own.nil w B, by simp⟩
/-- How many entries, and how many labels each. -/
def SzE (l : List EV) : Prop := l.length ≤ 1099511627776 ∧ ∀ x ∈ l, x.1.labs.length ≤ 4398046511104
theorem below_alloc' {w w' : World} {o : Obj} {B : Nat} (hB : B ≤ w.heap.size) (h : Below B (w.alloc o) w') : Below B w w' := ((Below.refl B w).alloc hB o).trans h
theorem Kd.made {α : Type} {K : Kd α} (w : World) : K.Own (w.alloc (.cells #[] K.e)) w.heap.size (.slice (some ⟨w.heap.size, 0, none⟩) 0 0) [] := World.ownsRow_made w #[] 0 (Nat.le_refl _) (by decide) (by simp)
theorem two_new {w w1 : World} {o1 o2 : Obj} (b : Below ((w.alloc o1).alloc o2).heap.size ((w.alloc o1).alloc o2) w1) : w1.heap[w.heap.size]? = some o1 ∧ w1.heap[w.heap.size + 1]? = some o2 := by
  have h1 := b.block w.heap.size (by simp; omega)
  have h2 := b.block (w.heap.size + 1) (by simp)
  refine ⟨h1.trans ?_, h2.trans ?_⟩
  · show ((w.heap.push o1).push o2)[w.heap.size]? = some o1
    simp [Array.getElem?_push]
  · have h := heap_alloc_new (w.alloc o1) o2
    rwa [World.size_alloc] at h
/-- One entry more, behind those of a row of the call's own. -/
theorem OwE.snoc {w w1 w' : World} {B : Nat} {v v' : Value} {m : List EV} {p : EV} (h : OwE w B v m) (hp : KLab.Own w B (lbV p) p.1.labs) (hb : Below w.heap.size w w1) (ho : KEnt.Own w' B v' (m ++ [p])) (hg : w1.grownBy w' v.ownBlock) : OwE w' B v' (m ++ [p]) := by
  refine ⟨ho, fun q hq => ?_⟩
  have hr := h.1.below hb
  rcases List.mem_append.1 hq with hq | hq
  · exact Kd.Own.apart (by decide) ((h.2 q hq).below hb) hr hg
  · obtain rfl := List.mem_singleton.1 hq
    exact Kd.Own.apart (by decide) (hp.below hb) hr hg
end Go.Icz
namespace Go.Proofs.Ytcffagfkpkfgbaa
open Go.RowKit Go.Icz
theorem infoL : (Try.prog.info? 65).map (fun i => (i.zero, i.size, i.bytes)) = some (some (.agg #[.string ⟨#[]⟩, .string ⟨#[]⟩]), 2, 32) := by kernel_rfl
theorem infoE : (Try.prog.info? 34).map (fun i => (i.zero, i.size, i.bytes)) = some (some (.agg #[.int .i64 0, .int .i64 0, .slice none 0 0, .string ⟨#[]⟩]), 4, 56) := by kernel_rfl
/-- It answers labels of its own. -/
def LabOut (l : List Lab) (w : World) (e : Ending) (w' : World) : Prop := ∃ A c, e = .returned (.slice A l.length c) ∧ KLab.Own w' w.heap.size (.slice A l.length c) l ∧ Below w.heap.size w w'
/-- It answers the entry with labels of its own. -/
def EntOut (x : Ent) (w : World) (e : Ending) (w' : World) : Prop := ∃ A c, e = .returned (entV (x, A, c)) ∧ KLab.Own w' w.heap.size (.slice A x.labs.length c) x.labs ∧ Below w.heap.size w w'
/-- It answers the entries in memory of their own. -/
def AllOut (l : List EV) (w : World) (e : Ending) (w' : World) : Prop := ∃ v m, e = .returned v ∧ OwE w' w.heap.size v m ∧ m.map (·.1) = l.map (·.1) ∧ Below w.heap.size w w'
set_option maxRecDepth 100000 in
theorem Clone_is (A : Option Addr) (c : Nat) (l : List Lab) (w : World) (hv : KLab.Rd w (.slice A l.length c) l) (hlen : l.length ≤ 4398046511104) :
    Calls Try.prog 30 #[.slice A l.length c] w (LabOut l w) := by
  have hn := Lib.run_eql_slice_nil (P := Try.prog)
  rcases A with _ | a
  · have hl : l = [] := by
      obtain ⟨A', c', e, _, hr⟩ := hv
      injection e with e1 e2 e3
      subst e1 e3
      rcases Nat.eq_zero_or_pos l.length with h | h
      · exact List.eq_nil_of_length_eq_zero h
      · obtain ⟨_, _, h, _⟩ := hr h
        cases h
    subst hl
    clear hv
    go_enter Try.func30, Try.ntmps30
    go_wp2
    go_ret
    exact ⟨none, 0, rfl, Kd.Own.nil _ _, Below.refl _ _⟩
  · go_enter Try.func30, Try.ntmps30
    go_wp2_with (at_builtin; refine Kd.wp_app rfl (.tmp 5) (.tmp 6) 32 rfl Try.underlying32 infoL rfl w.heap.size _ _ [] l rfl (Kd.made w) rfl (hv.alloc _) ?_ ?_ ?_ ?_; (focus (unfold maxLen; simp; omega)); (focus (simp; omega)); (focus simp); intro v1 w1 o1 b1 g1 n1)
    obtain ⟨A1, c1, rfl, _⟩ := o1.rd.form
    go_ret
    exact ⟨A1, c1, rfl, o1, below_alloc' (Nat.le_refl _) b1⟩
set_option maxHeartbeats 2000000 in
set_option maxRecDepth 100000 in
theorem own_is (x : EV) (w : World) (hR : KLab.Rd w (lbV x) x.1.labs) (hz : x.1.labs.length ≤ 4398046511104) :
    Calls Try.prog 24 #[entV x] w (EntOut x.1 w) := by
  have hO := fun w1 (g : KLab.Rd w1 (lbV x) x.1.labs) => Clone_is x.2.1 x.2.2 x.1.labs w1 g hz
  have hR1 := fun o o2 => (hR.alloc o).alloc o2
  unfold lbV at hO hR1
  unfold entV
  clear hR
  go_enter Try.func24, Try.ntmps24
  go_wp2_with (go_at_call 30; refine (hO _ (hR1 _ _)).mono ?_; rintro e w1 ⟨A1, c1, rfl, r1, b1⟩; have hh := two_new b1; have q0 := held_cell (i := 0) hh.1 rfl; have q1 := held_cell (i := 1) hh.1 rfl; have q2 := held_cell (i := 2) hh.1 rfl; have q3 := held_cell (i := 3) hh.1 rfl; have p0 := held_cell (i := 0) hh.2 rfl; have p1 := held_cell (i := 1) hh.2 rfl; have p2 := held_cell (i := 2) hh.2 rfl; have p3 := held_cell (i := 3) hh.2 rfl; have fq := held_frozen (i := 2) hh.1; have f0 := held_frozen (i := 0) hh.2; have f1 := held_frozen (i := 1) hh.2; have f2 := held_frozen (i := 2) hh.2; have f3 := held_frozen (i := 3) hh.2; clear hO hR1 hh)
  have gg : ∀ (u0 u1 u2 u3 u4 : Value), KLab.Own (((((w1.setCell ⟨w.heap.size, 2, none⟩ u0).setCell ⟨w.heap.size + 1, 0, none⟩ u1).setCell ⟨w.heap.size + 1, 1, none⟩ u2).setCell ⟨w.heap.size + 1, 2, none⟩ u3).setCell ⟨w.heap.size + 1, 3, none⟩ u4) w.heap.size (.slice A1 x.1.labs.length c1) x.1.labs ∧ Below w.heap.size w (((((w1.setCell ⟨w.heap.size, 2, none⟩ u0).setCell ⟨w.heap.size + 1, 0, none⟩ u1).setCell ⟨w.heap.size + 1, 1, none⟩ u2).setCell ⟨w.heap.size + 1, 2, none⟩ u3).setCell ⟨w.heap.size + 1, 3, none⟩ u4) := by
    intro u0 u1 u2 u3 u4
    have hsz : ((w.alloc (.cells #[.int .i64 x.1.seq, .int .i64 x.1.time, .slice x.2.1 x.1.labs.length x.2.2, .string ⟨x.1.line.toArray⟩] 34)).alloc (.cells #[.int .i64 0, .int .i64 0, .slice none 0 0, .string ⟨#[]⟩] 34)).heap.size = w.heap.size + 2 := by simp
    rw [hsz] at r1
    have t : Tch (fun k => k = w.heap.size ∨ k = w.heap.size + 1) w1 (((((w1.setCell ⟨w.heap.size, 2, none⟩ u0).setCell ⟨w.heap.size + 1, 0, none⟩ u1).setCell ⟨w.heap.size + 1, 1, none⟩ u2).setCell ⟨w.heap.size + 1, 2, none⟩ u3).setCell ⟨w.heap.size + 1, 3, none⟩ u4) :=
      ((((Tch.set _ w1 ⟨w.heap.size, 2, none⟩ u0 (.inl rfl)).trans (Tch.set _ _ ⟨w.heap.size + 1, 0, none⟩ u1 (.inr rfl))).trans (Tch.set _ _ ⟨w.heap.size + 1, 1, none⟩ u2 (.inr rfl))).trans (Tch.set _ _ ⟨w.heap.size + 1, 2, none⟩ u3 (.inr rfl))).trans (Tch.set _ _ ⟨w.heap.size + 1, 3, none⟩ u4 (.inr rfl))
    have b0 : Below w.heap.size w w1 := (((Below.refl _ _).alloc (Nat.le_refl _) _).alloc (by simp) _).trans (b1.mono (by simp; omega))
    refine ⟨(r1.touch t (fun j hj e => ?_)).mono (by omega), Tch.below b0 t (fun j hj => by omega) b0.size⟩
    have := (r1.lt j e).1
    omega
  exact bodyPost_ret (v := entV (x.1, A1, c1)) (by simp [results, Try.results24, go_sem, entV, *]) rfl ⟨A1, c1, rfl, (gg _ _ _ _ _).1, (gg _ _ _ _ _).2⟩
set_option maxHeartbeats 4000000 in
set_option maxRecDepth 100000 in
theorem copied_is (v : Value) (l : List EV) (w : World) (hR : RdE w v l) (hz : SzE l) :
    Calls Try.prog 18 #[v] w (AllOut l w) := by
  obtain ⟨A, c, rfl, hlc⟩ := hR.1.form
  have hlen := hz.1
  go_enter Try.func18, Try.ntmps18
  go_wp2
  go_loopw [3, 8] (fun ov iv wr => ∃ (i : Nat) (m : List EV), iv = .int .i64 i ∧ i ≤ l.length ∧ OwE wr w.heap.size ov m ∧ Hid (m.map (·.1) = (l.take i).map (·.1) ∧ m.length = i) ∧ Below w.heap.size w wr) (fun _ iv _ => l.length - (intOf iv).toNat)
  case atStart => exact ⟨0, [], rfl, by omega, OwE.nil _ _, hid ⟨by simp, rfl⟩, Below.refl _ _⟩
  case round =>
    obtain ⟨i0, m, rfl, hi, ho, HM, hbw⟩ := hrel
    by_cases hlt : i0 < l.length
    · have HT : Hid ((l.take (i0 + 1)).map (·.1) = (l.take i0).map (·.1) ++ [l[i0].1]) := hid (by rw [List.take_succ_eq_append_getElem hlt, List.map_append]; rfl)
      have hil : (i0 : Int) < (l.length : Int) := by omega
      have HIL := hid hlt
      obtain ⟨b, off, hA, hb, hcell⟩ := hR.1.at hlt
      subst hA
      have q := fun i u hi hu => (hbw.cell (p := ⟨b, off + (i0 * 4 + i), none⟩) hb).trans (hcell i u hi hu)
      have q0 : wr.cell? ⟨b, off + i0 * 4, none⟩ = some (.int .i64 (l[i0]).1.seq) := q 0 _ (by decide) rfl
      have q1 : wr.cell? ⟨b, off + i0 * 4 + 1, none⟩ = some (.int .i64 (l[i0]).1.time) := q 1 _ (by decide) rfl
      have q2 : wr.cell? ⟨b, off + i0 * 4 + 2, none⟩ = some (.slice (l[i0]).2.1 (l[i0]).1.labs.length (l[i0]).2.2) := q 2 _ (by decide) rfl
      have q3 : wr.cell? ⟨b, off + i0 * 4 + 3, none⟩ = some (.string ⟨(l[i0]).1.line.toArray⟩) := q 3 _ (by decide) rfl
      clear q hcell
      have rl := (hR.2 _ (List.getElem_mem hlt)).below hbw
      have hxz := hz.2 _ (List.getElem_mem hlt)
      have hml : (m.length + 1) * 56 ≤ 140737488355328 := by have := HM.out.2; omega
      have hmm : m.length + 1 ≤ maxLen := by have := HM.out.2; unfold maxLen; omega
      have hwz := hbw.size
      clear hR hz
      generalize l[i0] = x at *
      have hO := fun w1 (hb : Below wr.heap.size wr w1) => own_is x w1 (rl.below hb) hxz
      unfold EntOut entV at hO
      have br : Below wr.heap.size wr wr := Below.refl _ _
      have ba : ∀ o, Below wr.heap.size wr (wr.alloc o) := fun o => (Below.refl _ wr).alloc (Nat.le_refl _) o
      go_wp2_with (first
        | (go_at_call 24; refine (hO _ (ba _)).mono ?_; rintro e w1 ⟨A1, c1, rfl, ol, b1⟩; have bB := (ba _).trans (b1.mono ((ba _)).size); have o1 := ho.below bB; have ol1 := ol.mono (Nat.le_trans hwz ((ba _)).size); have bw1 := hbw.trans (bB.mono hwz); have z1 := Nat.le_trans hwz bB.size; clear hO ho ol)
        | (at_builtin; refine Kd.wp_app1 (K := KEnt) rfl (.tmp 12) (.tmp 15) 22 rfl Try.underlying22 infoE rfl w.heap.size _ m (x.1, A1, c1) rfl o1.1 rfl rfl rfl hmm hml z1 ?_; intro v5 w5 o5 b5 g5 n5))
      have o6 := o1.snoc ol1 ((Below.refl _ _).alloc (Nat.le_refl _) _) o5 g5
      go_roundw
      case rel => exact ⟨i0 + 1, m ++ [(x.1, A1, c1)], by go_num, HIL.out, o6, hid ⟨by rw [List.map_append, HM.out.1, HT.out]; rfl, by rw [List.length_append, HM.out.2]; rfl⟩, bw1.trans b5⟩
      case measure => have := HIL.out; simp [intOf]; omega
    · have him : i0 = l.length := by omega
      have HM2 : Hid (m.map (·.1) = l.map (·.1)) := hid (by rw [HM.out.1, him, List.take_length])
      clear HM hlt
      go_wp2
      go_ret
      exact ⟨_, m, rfl, ho, HM2.out, hbw⟩
end Go.Proofs.Ytcffagfkpkfgbaa
