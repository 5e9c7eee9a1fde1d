/-
  Labels that are spoilt; a row turned round; rows copied. Conditions: those that each theorem names.
-/
import Derived.Test.YtcffagfkpkfgbaaMgr
namespace Go.Icz
open Go.RowKit
theorem Tch.trans' {S T : Nat → Prop} {a b c : World} (h : Tch S a b) (k : Tch T b c) (hT : ∀ j, T j → S j) : Tch S a c := h.trans (k.mono hT)
/-- The entry's labels lie in a block of the call's own. -/
def LbB (w : World) (B : Nat) (x : EV) : Prop := x.1.labs = [] ∨ ∃ g cap cur, x.2 = (some ⟨g, 0, none⟩, cap) ∧ w.heap[g]? = some (.cells cur 65 (0, 0)) ∧ cur.size = cap * 2 ∧ x.1.labs.length ≤ cap ∧ B ≤ g
theorem LbB.of {w : World} {B : Nat} {x : EV} (h : KLab.Own w B (lbV x) x.1.labs) : LbB w B x := by
  rcases h.2 with ⟨_, hn⟩ | ⟨g, cap, cur, hv, hg, hh, hnc, _, hcs, _⟩
  · exact .inl (List.eq_nil_of_length_eq_zero hn)
  · injection hv with e1 e2 e3
    exact .inr ⟨g, cap, cur, Prod.ext e1 e3, hh, hcs, hnc, hg⟩
theorem LbB.set {w : World} {B : Nat} {x : EV} (h : LbB w B x) (g i : Nat) (u : Value) : LbB (w.setCell ⟨g, i, none⟩ u) B x := by
  rcases h with h | ⟨g', cap, cur, hv, hh, hcs, hnc, hg⟩
  · exact .inl h
  · right
    by_cases e : g' = g
    · subst e
      exact ⟨g', cap, _, hv, row_set hh u, by simpa using hcs, hnc, hg⟩
    · exact ⟨g', cap, cur, hv, row_far hh u e, hcs, hnc, hg⟩
/-- Blocks of labels from B on. -/
def isLab (w : World) (B k : Nat) : Prop := B ≤ k ∧ ∃ cur, w.heap[k]? = some (.cells cur 65 (0, 0))
/-- What has turned are labels from B on. -/
structure LT (B : Nat) (w w' : World) : Prop where
  tch : Tch (isLab w B) w w'
  keep : ∀ k cur, B ≤ k → w.heap[k]? = some (.cells cur 65 (0, 0)) → ∃ cur', w'.heap[k]? = some (.cells cur' 65 (0, 0)) ∧ cur'.size = cur.size
theorem LT.refl (B : Nat) (w : World) : LT B w w := ⟨Tch.refl _ w, fun _ cur _ h => ⟨cur, h, rfl⟩⟩
theorem LT.set {B : Nat} {w w' : World} (h : LT B w w') {g : Nat} (hg : isLab w B g) (i : Nat) (u : Value) : LT B w (w'.setCell ⟨g, i, none⟩ u) := by
  refine ⟨h.tch.trans' (Tch.set (· = g) w' ⟨g, i, none⟩ u rfl) (fun k e => by rw [e]; exact hg), fun k cur hB hk => ?_⟩
  obtain ⟨cur', hc, hs⟩ := h.keep k cur hB hk
  by_cases e : k = g
  · subst e
    exact ⟨_, row_set hc u, by simpa using hs⟩
  · exact ⟨cur', row_far hc u e, hs⟩
theorem swpE_put : ∀ (l : List EV) (k : Nat) (r : EV), k < l.length → KEnt.cells (l.set k r) = ((((KEnt.cells l).set (k * 4) (.int .i64 r.1.seq)).set (k * 4 + 1) (.int .i64 r.1.time)).set (k * 4 + 2) (.slice r.2.1 r.1.labs.length r.2.2)).set (k * 4 + 3) (.string ⟨r.1.line.toArray⟩)
  | [], k, r, h => by simp at h
  | x :: t, 0, r, _ => rfl
  | x :: t, k + 1, r, h => by
    have ih := swpE_put t k r (by simpa using h)
    have e : ∀ (y : EV) (m : List EV), KEnt.cells (y :: m) = .int .i64 y.1.seq :: .int .i64 y.1.time :: .slice y.2.1 y.1.labs.length y.2.2 :: .string ⟨y.1.line.toArray⟩ :: KEnt.cells m := fun _ _ => rfl
    rw [List.set_cons_succ, e, e, ih, show (k + 1) * 4 = k * 4 + 1 + 1 + 1 + 1 by omega, show k * 4 + 1 + 1 + 1 + 1 + 1 = (k * 4 + 1) + 1 + 1 + 1 + 1 by omega, show k * 4 + 1 + 1 + 1 + 1 + 2 = (k * 4 + 2) + 1 + 1 + 1 + 1 by omega, show k * 4 + 1 + 1 + 1 + 1 + 3 = (k * 4 + 3) + 1 + 1 + 1 + 1 by omega]
    rfl
theorem ownE_put {w : World} {B g n cap : Nat} {l : List EV} (h : KEnt.Own w B (.slice (some ⟨g, 0, none⟩) n cap) l) (k : Nat) (hk : k < l.length) (r : EV) :
    KEnt.Own ((((w.setCell ⟨g, k * 4, none⟩ (.int .i64 r.1.seq)).setCell ⟨g, k * 4 + 1, none⟩ (.int .i64 r.1.time)).setCell ⟨g, k * 4 + 2, none⟩ (.slice r.2.1 r.1.labs.length r.2.2)).setCell ⟨g, k * 4 + 3, none⟩ (.string ⟨r.1.line.toArray⟩)) B (.slice (some ⟨g, 0, none⟩) n cap) (l.set k r) := by
  have hn : n = l.length := by
    obtain ⟨A, c, e, _⟩ := h.rd.form
    injection e
  subst hn
  unfold Kd.Own at *
  rw [swpE_put l k r hk, List.length_set]
  exact (World.ownsRow.stored (World.ownsRow.stored (World.ownsRow.stored (World.ownsRow.stored h (k * 4) _).1 (k * 4 + 1) _).1 (k * 4 + 2) _).1 (k * 4 + 3) _).1
/-- Two changed places, the i-th from either end: so far the list is turned round. -/
theorem rev_get {l m : List EV} (hl : m.length = l.length) (h : ∀ k, k < l.length → m[k]? = l[l.length - 1 - k]?) : m = l.reverse := by
  apply List.ext_getElem?
  intro k
  by_cases hk : k < l.length
  · rw [h k hk, List.getElem?_reverse hk]
  · rw [List.getElem?_eq_none (by omega), List.getElem?_eq_none (by rw [List.length_reverse]; omega)]
end Go.Icz
namespace Go.Proofs.Ytcffagfkpkfgbaa
open Go.RowKit Go.Icz
theorem Rd4 {w : World} {A : Option Addr} {n c : Nat} {l : List EV} (h : KEnt.Rd w (.slice A n c) l) {j : Nat} (hj : j < l.length) : ∃ b off, A = some ⟨b, off, none⟩ ∧ b < w.heap.size ∧ w.cell? ⟨b, off + j * 4, none⟩ = some (.int .i64 (l[j]).1.seq) ∧ w.cell? ⟨b, off + j * 4 + 1, none⟩ = some (.int .i64 (l[j]).1.time) ∧ w.cell? ⟨b, off + j * 4 + 2, none⟩ = some (.slice (l[j]).2.1 (l[j]).1.labs.length (l[j]).2.2) ∧ w.cell? ⟨b, off + j * 4 + 3, none⟩ = some (.string ⟨(l[j]).1.line.toArray⟩) := by
  obtain ⟨b, off, hA, hb, hc⟩ := h.at hj
  exact ⟨b, off, hA, hb, hc 0 _ (by decide) rfl, hc 1 _ (by decide) rfl, hc 2 _ (by decide) rfl, hc 3 _ (by decide) rfl⟩
set_option maxHeartbeats 4000000 in
set_option maxRecDepth 100000 in
theorem Reverse_is (v : Value) (B : Nat) (l : List EV) (w : World) (h : KEnt.Own w B v l) (hlen : l.length ≤ 1099511627776) :
    Calls Try.prog 19 #[v] w fun e w' => e = .returned (.tuple #[]) ∧ KEnt.Own w' B v l.reverse ∧ Tch (fun k => v.ownBlock = some k) w w' := by
  obtain ⟨A, c, rfl, hlc⟩ := h.rd.form
  have bl : (l.length : Int) ≤ 1099511627776 := by omega
  go_enter Try.func19, Try.ntmps19
  go_wp2
  go_loopw [2, 3] (fun iv jv wr => ∃ (i : Nat) (m : List EV), iv = .int .i64 i ∧ jv = .int .i64 ((l.length : Int) - 1 - i) ∧ 2 * i ≤ l.length + 1 ∧ KEnt.Own wr B (.slice A l.length c) m ∧ Hid (m.length = l.length ∧ ∀ k, k < l.length → m[k]? = if k < i ∨ l.length - i ≤ k then l[l.length - 1 - k]? else l[k]?) ∧ Tch (fun k => (Value.slice A l.length c).ownBlock = some k) w wr) (fun iv _ _ => l.length - (intOf iv).toNat)
  case atStart => exact ⟨0, l, rfl, by simp, by omega, h, hid ⟨rfl, fun k hk => by rw [if_neg (by omega)]⟩, Tch.refl _ _⟩
  case round =>
    obtain ⟨i, m, rfl, rfl, h2, ho, HM, ht⟩ := hrel
    by_cases hc : 2 * i + 1 < l.length
    · obtain ⟨j, hj⟩ : ∃ j, j = l.length - 1 - i := ⟨_, rfl⟩
      have ej : (l.length : Int) - 1 - (i : Int) = (j : Int) := by omega
      rw [ej]
      have hij : i < j := by omega
      have him : i < m.length := by have := HM.out.1; omega
      have hjm : j < m.length := by have := HM.out.1; omega
      have hijI : (i : Int) < (j : Int) := by omega
      have hilI : (i : Int) < (l.length : Int) := by omega
      have hjlI : (j : Int) < (l.length : Int) := by omega
      have gi : m[i]? = some m[i] := List.getElem?_eq_getElem him
      have gj : m[j]? = some m[j] := List.getElem?_eq_getElem hjm
      obtain ⟨g, cap, hv, _, _, hf, hcell⟩ := ho.block (by omega)
      have hlm : m.length = l.length := HM.out.1
      injection hv with e1 e2 e3
      subst e1 e3
      have f := fun k => hf k
      have cc : ∀ k (hk : k < m.length), wr.cell? ⟨g, k * 4, none⟩ = some (.int .i64 (m[k]).1.seq) ∧ wr.cell? ⟨g, k * 4 + 1, none⟩ = some (.int .i64 (m[k]).1.time) ∧ wr.cell? ⟨g, k * 4 + 2, none⟩ = some (.slice (m[k]).2.1 (m[k]).1.labs.length (m[k]).2.2) ∧ wr.cell? ⟨g, k * 4 + 3, none⟩ = some (.string ⟨(m[k]).1.line.toArray⟩) := fun k hk => ⟨hcell k hk 0 (by decide), hcell k hk 1 (by decide), hcell k hk 2 (by decide), hcell k hk 3 (by decide)⟩
      obtain ⟨x0, x1, x2, x3⟩ := cc i him
      obtain ⟨y0, y1, y2, y3⟩ := cc j hjm
      have fx0 := f (i * 4)
      have fx1 := f (i * 4 + 1)
      have fx2 := f (i * 4 + 2)
      have fx3 := f (i * 4 + 3)
      have fy0 := f (j * 4)
      have fy1 := f (j * 4 + 1)
      have fy2 := f (j * 4 + 2)
      have fy3 := f (j * 4 + 3)
      have P1 := ownE_put (ownE_put ho i him m[j]) j (by rw [List.length_set]; exact hjm) m[i]
      have HS := hid (swp_get gi gj)
      have HSL := hid (swp_length m i j)
      rw [← swp_set him hjm] at P1
      have HIJ := hid (show i < j ∧ 2 * i + 1 < l.length ∧ j = l.length - 1 - i from ⟨hij, hc, hj⟩)
      have HI2 : Hid ((swp m i j).length = l.length ∧ ∀ k, k < l.length → (swp m i j)[k]? = if k < i + 1 ∨ l.length - (i + 1) ≤ k then l[l.length - 1 - k]? else l[k]?) := hid (by
        refine ⟨by rw [HSL.out]; exact hlm, fun k hk => ?_⟩
        rw [HS.out]
        have hMi := HM.out.2 i (by omega)
        have hMj := HM.out.2 j (by omega)
        rw [if_neg (by omega)] at hMi hMj
        by_cases e1 : k = j
        · subst e1
          rw [if_pos rfl, if_pos (by omega), ← gi, hMi]
          congr 1
          omega
        · rw [if_neg e1]
          by_cases e2 : k = i
          · subst e2
            rw [if_pos rfl, if_pos (by omega), ← gj, hMj]
            congr 1
          · rw [if_neg e2, HM.out.2 k hk]
            by_cases e3 : k < i ∨ l.length - i ≤ k
            · rw [if_pos e3, if_pos (by omega)]
            · rw [if_neg e3, if_neg (by omega)])
      have hne : ¬ i = j := by omega
      have hne' : ¬ j = i := by omega
      have ej1 : (j : Int) - 1 = (l.length : Int) - 1 - ((i + 1 : Nat) : Int) := by omega
      have EJ := hid ej1
      have tt : ∀ (p1 p2 p3 p4 p5 p6 p7 p8 : Nat) (u1 u2 u3 u4 u5 u6 u7 u8 : Value), Tch (fun k => (Value.slice (some ⟨g, 0, none⟩) l.length c).ownBlock = some k) wr ((((((((wr.setCell ⟨g, p1, none⟩ u1).setCell ⟨g, p2, none⟩ u2).setCell ⟨g, p3, none⟩ u3).setCell ⟨g, p4, none⟩ u4).setCell ⟨g, p5, none⟩ u5).setCell ⟨g, p6, none⟩ u6).setCell ⟨g, p7, none⟩ u7).setCell ⟨g, p8, none⟩ u8).drew := fun p1 p2 p3 p4 p5 p6 p7 p8 u1 u2 u3 u4 u5 u6 u7 u8 =>
        (((((((((Tch.set (· = g) wr ⟨g, p1, none⟩ u1 rfl).trans (Tch.set _ _ ⟨g, p2, none⟩ u2 rfl)).trans (Tch.set _ _ ⟨g, p3, none⟩ u3 rfl)).trans (Tch.set _ _ ⟨g, p4, none⟩ u4 rfl)).trans (Tch.set _ _ ⟨g, p5, none⟩ u5 rfl)).trans (Tch.set _ _ ⟨g, p6, none⟩ u6 rfl)).trans (Tch.set _ _ ⟨g, p7, none⟩ u7 rfl)).trans (Tch.set _ _ ⟨g, p8, none⟩ u8 rfl)).trans (Tch.drew _ _)).mono (fun k hk => by rw [hk]; rfl)
      clear gi gj hcell f cc hf hlm hj h ej ej1 HM ho
      generalize m[i] = x at *
      generalize m[j] = y at *
      generalize swp m i j = m2 at *
      go_wp2
      go_region
      go_wp2
      go_roundw
      case rel => exact ⟨i + 1, m2, by go_num, by rw [← EJ.out], by have := HIJ.out; omega, P1.below (Below.refl _ _).drew, HI2, ht.trans (tt _ _ _ _ _ _ _ _ _ _ _ _ _ _ _ _)⟩
      case measure => have := HIJ.out; simp [intOf]; omega
    · have hnc : ¬ (i : Int) < (l.length : Int) - 1 - (i : Int) := by omega
      have hrev : m = l.reverse := rev_get HM.out.1 (fun k hk => by
        rw [HM.out.2 k hk]
        by_cases e : k < i ∨ l.length - i ≤ k
        · rw [if_pos e]
        · rw [if_neg e]
          congr 1
          omega)
      subst hrev
      clear HM
      go_wp2
      go_end0
      exact ⟨rfl, ho, ht⟩
/-- The entries turned round, in memory of their own. -/
def TurnOut (l : List EV) (w : World) (e : Ending) (w' : World) : Prop := ∃ v m, e = .returned v ∧ OwE w' w.heap.size v m ∧ m.map (·.1) = (l.map (·.1)).reverse ∧ Below w.heap.size w w'
theorem ownE_tch {w w' : World} {B : Nat} {v : Value} {l m : List EV} (h : OwE w B v l) (ho : KEnt.Own w' B v m) (hm : ∀ x ∈ m, x ∈ l) (t : Tch (fun k => v.ownBlock = some k) w w') : OwE w' B v m := by
  refine ⟨ho, fun x hx => Kd.Own.touch (h.2 x (hm x hx)) t (fun j hj e => ?_)⟩
  have hl := h.2 x (hm x hx)
  rcases hl.2 with ⟨hv, _⟩ | ⟨g, cap, cur, hv, _, hh, _⟩
  · rw [hv] at e; cases e
  · rw [hv] at e
    injection e with e
    have e : g = j := e
    subst e
    rcases h.1.2 with ⟨rfl, _⟩ | ⟨g2, cap2, cur2, rfl, _, hh2, _⟩
    · cases hj
    · injection hj with hj
      have hj : g2 = g := hj
      subst hj
      rw [hh] at hh2
      injection hh2 with hh2
      injection hh2 with _ h2 _
      exact absurd h2 (by decide)
set_option maxRecDepth 100000 in
theorem GTurn_is (v : Value) (l : List EV) (w : World) (hR : RdE w v l) (hz : SzE l) : Calls Try.prog 12 #[v] w (TurnOut l w) := by
  have hC := copied_is v l w hR hz
  have hRv := fun u (m : List EV) w1 (ho : OwE w1 w.heap.size u m) (hl : m.length ≤ 1099511627776) => Reverse_is u w.heap.size m w1 ho.1 hl
  have HL := hid hz.1
  clear hR hz
  go_enter Try.func12, Try.ntmps12
  go_wp2_with (first
    | (go_at_call 18; refine hC.mono ?_; rintro e w1 ⟨u, m, rfl, ho, hm, hb⟩; have HM := hid hm; have R1 := hRv u m w1 ho (by have := congrArg List.length HM.out; simp at this; have := HL.out; omega); clear hm hRv)
    | (go_at_call 19; refine R1.mono ?_; rintro e w2 ⟨rfl, ho2, t2⟩; clear R1))
  go_ret
  exact ⟨u, m.reverse, rfl, ownE_tch ho ho2 (fun x hx => List.mem_reverse.1 hx) t2, by rw [List.map_reverse, HM.out], Tch.below hb t2 (fun j hj => (ho.1.lt j hj).1) hb.size⟩
end Go.Proofs.Ytcffagfkpkfgbaa
