/-
  The reference's Put: the walk. Conditions: those that each theorem names.
-/
import Derived.Test.YtcohpgahffbnlaaOqm
import Derived.Laws.OwnMore
namespace Go.Proofs.Ytcohpgahffbnlaa
open Go.RowKit Go.Icz Go.Maps Go.ChangeMaps Go.MapKept
set_option maxRecDepth 100000
set_option maxHeartbeats 8000000
variable {w : World} {T : Nat → Prop} {r : Nat} {lv cv : Value} {xs : List OV} {M : SM} {c : Nat}
theorem kro_set : ∀ {xs : List OV} {i : Nat} (hi : i < xs.length) (x : OV), x.k = xs[i].k → KRO.cells (xs.set i x) = (KRO.cells xs).set (i * 2 + 1) (.slice x.A x.n x.c)
  | [], _, hi, _, _ => absurd hi (by simp)
  | a :: t, 0, _, x, hk => by
    have hk' : x.k = a.k := hk
    show KRO.enc x ++ KRO.cells t = (KRO.enc a ++ KRO.cells t).set 1 _
    show Value.string x.k :: Value.slice x.A x.n x.c :: KRO.cells t = (Value.string a.k :: Value.slice a.A a.n a.c :: KRO.cells t).set 1 _
    rw [hk']
    rfl
  | a :: t, i + 1, hi, x, hk => by
    have ih := kro_set (xs := t) (i := i) (by simpa using hi) x (by simpa using hk)
    show KRO.enc a ++ KRO.cells (t.set i x) = (KRO.enc a ++ KRO.cells t).set ((i + 1) * 2 + 1) _
    rw [ih]
    show Value.string a.k :: Value.slice a.A a.n a.c :: (KRO.cells t).set (i * 2 + 1) _ = (Value.string a.k :: Value.slice a.A a.n a.c :: KRO.cells t).set ((i + 1) * 2 + 1) _
    rw [show (i + 1) * 2 + 1 = (i * 2 + 1) + 1 + 1 by omega]
    rfl
/-- An object's bytes are new ones. -/
theorem Rf.put1 (h : Rf w T r lv cv xs M) {g cp : Nat} (hlv : lv = .slice (some ⟨g, 0, none⟩) xs.length cp) {i : Nat} (hi : i < xs.length) {A : Option Addr} {n c : Nat} {k : ByteArray} {l : List Nat} (hk : k = xs[i].k) (hov : KB.Own w 0 (.slice A n c) l) (hTv : ∀ b, (Value.slice A n c).ownBlock = some b → T b) {M' : SM} (hL : M'.L = M.L.set i (k, l)) (hC : M'.ch = M.ch) (hM : rfR M' lv cv = rfR M lv cv) :
    Rf (w.setCell ⟨g, i * 2 + 1, none⟩ (.slice A n c)) T r lv cv (xs.set i ⟨k, A, n, c⟩) M' ∧ Tch T w (w.setCell ⟨g, i * 2 + 1, none⟩ (.slice A n c)) := by
  have t : Tch (· = g) w (w.setCell ⟨g, i * 2 + 1, none⟩ (.slice A n c)) := Tch.set _ _ _ _ rfl
  have hb : lv.ownBlock = some g := by rw [hlv]; rfl
  obtain ⟨cur, hg⟩ := h.lo.row hb
  have hgr : r ≠ g := tag_ne h.r_ hg (by decide)
  have hu : ∀ cs z, w.heap[g]? ≠ some (.cells cs 5 z) := fun cs z e => tag_ne e hg (by decide) rfl
  have hlo : KRO.Own (w.setCell ⟨g, i * 2 + 1, none⟩ (.slice A n c)) 0 lv (xs.set i ⟨k, A, n, c⟩) := by
    have h1 := h.lo
    unfold Kd.Own at h1 ⊢
    rw [List.length_set, kro_set hi ⟨k, A, n, c⟩ hk]
    rw [hlv] at h1 ⊢
    exact (h1.stored (i * 2 + 1) (.slice A n c)).1
  refine ⟨⟨by rw [hM]; exact t.row h.r_ hgr, hlo, ?_, ?_, h.tr, h.tl, h.tc⟩, t.mono (fun j hj => by rw [hj]; exact h.tl g hb)⟩
  · refine ⟨by rw [List.length_set, hL, List.length_set, h.ob.1], fun j h1 h2 => ?_⟩
    have h1' : j < xs.length := by simpa using h1
    have h2' : j < M.L.length := by rw [← h.ob.1]; exact h1'
    have e2 : M'.L[j] = (M.L.set i (k, l))[j]'(by rw [List.length_set]; exact h2') := by simp only [hL]
    rw [e2, List.getElem_set, List.getElem_set]
    by_cases e : i = j
    · rw [if_pos e, if_pos e]
      refine ⟨rfl, hov.touch t (fun q hq hb2 => ?_), hTv⟩
      obtain ⟨cur2, hc2⟩ := hov.row hb2
      subst hq
      exact hu _ _ hc2
    · rw [if_neg e, if_neg e]
      exact (h.ob.touch t (fun q hq _ cs z => by rw [hq]; exact hu cs z)).2 j h1' h2'
  · rw [hC]
    refine h.ch.touch t (fun j hj hb2 => ?_)
    obtain ⟨c2, hc2⟩ := h.ch.row hb2
    subst hj
    exact tag_ne hg hc2 (by decide) rfl
end Go.Proofs.Ytcohpgahffbnlaa
