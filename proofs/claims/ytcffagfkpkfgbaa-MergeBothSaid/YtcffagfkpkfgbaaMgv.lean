/-
  The reference's Turn; the law's Rows. Conditions: those that each theorem names.
-/
import Derived.Test.YtcffagfkpkfgbaaMgu
namespace Go.Icz
open Go.RowKit
/-- What is right of an entry, wherever it lies. -/
def wfE (x : Ent) : Prop := wfI x.seq ∧ x.labs.length ≤ 4398046511104
theorem goodE_iff {w : World} {x : EV} : GoodE w x ↔ KLab.Rd w (lbV x) x.1.labs ∧ wfE x.1 := Iff.rfl
/-- Rows of the call's own. -/
def OwR (w : World) (B : Nat) (v : Value) (R : List SR) : Prop := KSl.Own w B v R ∧ ∀ r ∈ R, OwE w B (.slice r.A r.l.length r.c) r.l
theorem OwR.below {w w' : World} {B : Nat} {v : Value} {R : List SR} (h : OwR w B v R) (hb : Below w.heap.size w w') : OwR w' B v R := ⟨h.1.below hb, fun r hr => (h.2 r hr).below hb⟩
/-- The entries of rows, bare. -/
def bare (R : List SR) : List (List Ent) := R.map fun r => r.l.map (·.1)
def WfR (L : List (List Ent)) : Prop := ∀ l ∈ L, ∀ x ∈ l, wfE x
theorem OwR.rd {w : World} {B : Nat} {v : Value} {R : List SR} (h : OwR w B v R) (hw : WfR (bare R)) : RdR w v R :=
  ⟨h.1.rd, fun r hr => ⟨(h.2 r hr).1.rd, fun x hx => ⟨((h.2 r hr).2 x hx).rd, hw _ (List.mem_map.2 ⟨r, hr, rfl⟩) x.1 (List.mem_map.2 ⟨x, hx, rfl⟩)⟩⟩⟩
theorem RdR.wf {w : World} {v : Value} {R : List SR} (h : RdR w v R) : WfR (bare R) := by
  intro l hl x hx
  obtain ⟨r, hr, rfl⟩ := List.mem_map.1 hl
  obtain ⟨y, hy, rfl⟩ := List.mem_map.1 hx
  exact ((h.2 r hr).2 y hy).2
theorem RdR.rdE {w : World} {v : Value} {R : List SR} (h : RdR w v R) {r : SR} (hr : r ∈ R) : RdE w (.slice r.A r.l.length r.c) r.l := ⟨(h.2 r hr).1, fun x hx => ((h.2 r hr).2 x hx).1⟩
/-- Sizes of rows. -/
def SzR (R : List SR) : Prop := R.length ≤ 1099511627776 ∧ totR (R.map (·.l)) ≤ 1099511627776
theorem le_tot {α : Type} : ∀ (R : List (List α)) (l : List α), l ∈ R → l.length ≤ totR R
  | r :: R, l, h => by
    have e : totR (r :: R) = r.length + totR R := by simp [totR]
    rcases List.mem_cons.1 h with rfl | h
    · omega
    · have := le_tot R l h
      omega
theorem SzR.one {R : List SR} (h : SzR R) {r : SR} (hr : r ∈ R) : r.l.length ≤ 1099511627776 := by
  have := le_tot _ _ (List.mem_map.2 ⟨r, hr, rfl⟩ : r.l ∈ R.map (·.l))
  have := h.2
  omega
end Go.Icz
namespace Go.Proofs.Ytcffagfkpkfgbaa
open Go.RowKit Go.Icz
theorem infoS : (Try.prog.info? 22).map (fun i => (i.zero, i.size, i.bytes)) = some (some (.slice none 0 0), 1, 24) := by kernel_rfl
/-- It answers the rows in memory of their own. -/
def RowsOut (R : List SR) (w : World) (e : Ending) (w' : World) : Prop := ∃ u R', e = .returned u ∧ OwR w' w.heap.size u R' ∧ bare R' = bare R ∧ Below w.heap.size w w'
set_option maxHeartbeats 4000000 in
set_option maxRecDepth 100000 in
theorem RTurn_is (v : Value) (l : List EV) (w : World) (hR : RdE w v l) (hz : SzE l) :
    Calls Try.prog 8 #[v] w fun e w' => ∃ u, e = .returned u ∧ KEnt.Own w' w.heap.size u l.reverse ∧ Below w.heap.size w w' := by
  obtain ⟨A, c, rfl, hlc⟩ := hR.1.form
  have hlen := hz.1
  have bl : (l.length : Int) ≤ 1099511627776 := by omega
  go_enter Try.func8, Try.ntmps8
  go_wp2
  go_loopw [3, 4] (fun ov iv wr => ∃ (k : Nat) (M : List EV), iv = .int .i64 ((k : Int) - 1) ∧ k ≤ l.length ∧ KEnt.Own wr w.heap.size ov M ∧ Hid (M = (l.drop k).reverse ∧ M.length + k = l.length) ∧ Below w.heap.size w wr) (fun _ iv _ => (intOf iv + 1).toNat)
  case atStart => exact ⟨l.length, [], rfl, Nat.le_refl _, Kd.Own.nil _ _, hid ⟨by simp, by simp⟩, Below.refl _ _⟩
  case round =>
    obtain ⟨k, M, rfl, hk, ho, HM, hbw⟩ := hrel
    by_cases h0 : k = 0
    · subst h0
      have HM2 : Hid (M = l.reverse) := hid (by rw [HM.out.1]; rfl)
      have := HM2.out
      subst this
      clear HM HM2
      go_wp2
      go_ret
      exact ⟨_, rfl, ho, hbw⟩
    · obtain ⟨j, rfl⟩ : ∃ j, k = j + 1 := ⟨k - 1, by omega⟩
      have e1 : ((j + 1 : Nat) : Int) - 1 = (j : Int) := by omega
      rw [e1]
      have hLt : j < l.length := by omega
      obtain ⟨b, off, hA, hb, c0, c1, c2, c3⟩ := Rd4 hR.1 hLt
      subst hA
      have q0 := (hbw.cell (p := ⟨b, off + j * 4, none⟩) hb).trans c0
      have q1 := (hbw.cell (p := ⟨b, off + j * 4 + 1, none⟩) hb).trans c1
      have q2 := (hbw.cell (p := ⟨b, off + j * 4 + 2, none⟩) hb).trans c2
      have q3 := (hbw.cell (p := ⟨b, off + j * 4 + 3, none⟩) hb).trans c3
      have hjl : (j : Int) < (l.length : Int) := by omega
      have bj : (j : Int) ≤ 1099511627776 := by omega
      have hml : (M.length + 1) * 56 ≤ 140737488355328 := by have := HM.out.2; omega
      have hmm : M.length + 1 ≤ maxLen := by have := HM.out.2; unfold maxLen; omega
      have HT : Hid ((l.drop j).reverse = M ++ [l[j]] ∧ (M ++ [l[j]]).length + j = l.length) := hid (by
        refine ⟨?_, by have := HM.out.2; simp; omega⟩
        rw [HM.out.1, List.drop_eq_getElem_cons hLt, List.reverse_cons])
      have hwz := hbw.size
      clear c0 c1 c2 c3 e1 hR hz HM
      generalize l[j] = x at *
      go_wp2_with (at_builtin; refine Kd.wp_app1 (K := KEnt) rfl (.tmp 12) (.tmp 17) 22 rfl Try.underlying22 infoE rfl w.heap.size _ M x rfl ho rfl rfl rfl hmm hml hwz ?_; intro v5 w5 o5 b5 g5 n5)
      go_roundw
      case rel => exact ⟨j, M ++ [x], rfl, by omega, o5, hid ⟨HT.out.1.symm, HT.out.2⟩, hbw.trans b5⟩
      case measure => simp [intOf]
end Go.Proofs.Ytcffagfkpkfgbaa
