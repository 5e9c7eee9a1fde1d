/-
  A disk turned: its plate, or one of its files; a change of its names, kept with the others. Conditions: those that each theorem names.
-/
import Derived.Test.YtjpneohachkheaaSm5
import Derived.Test.YtjpneohachkheaaSm6
import Derived.Test.YtjpneohachkheaaSshf
namespace Go.Icz
open Go.RowKit
end Go.Icz
namespace Go.Proofs.Ytjpneohachkheaa
open Go.RowKit Go.Icz Go.Maps Go.ChangeMaps Go.MapKept
set_option maxRecDepth 100000
set_option maxHeartbeats 1000000
variable {w w' : World} {T : Nat → Prop} {c c' q p n s : Nat} {cv : Value} {fl : List FV} {M M' : DM}
/-- A file's blocks are no others. -/
theorem Pl.fne (h : Pl w T c q p n s cv fl M) {x : FV} (hx : x ∈ fl) {k : Nat} (hk : FootF x k) : k ≠ q ∧ k ≠ p ∧ k ≠ n ∧ k ≠ s ∧ cv.ownBlock ≠ some k := by
  obtain ⟨cur, t, hc, ht⟩ := (h.fls.each x hx).tags hk
  obtain ⟨es, cl, hn⟩ := h.nm.row
  obtain ⟨es', cl', hs⟩ := h.sm.row
  refine ⟨tag_ne hc h.q_ ?_, tag_ne hc h.p_ ?_, map_ne hc hn, map_ne hc hs, fun hcv => ?_⟩
  · rcases ht with rfl | rfl | rfl <;> decide
  · rcases ht with rfl | rfl | rfl <;> decide
  · obtain ⟨cur2, hc2⟩ := h.ch.row hcv
    refine tag_ne hc hc2 ?_ rfl
    rcases ht with rfl | rfl | rfl <;> decide
theorem Pl.nne (h : Pl w T c q p n s cv fl M) : n ≠ q ∧ n ≠ p ∧ n ≠ s ∧ cv.ownBlock ≠ some n ∧ ∀ x ∈ fl, ¬ FootF x n := by
  obtain ⟨es, cl, hn⟩ := h.nm.row
  refine ⟨(map_ne h.q_ hn).symm, (map_ne h.p_ hn).symm, h.ns, fun hcv => ?_, fun x hx hf => (h.fne hx hf).2.2.1 rfl⟩
  obtain ⟨cur, hc⟩ := h.ch.row hcv
  exact map_ne hc hn rfl
theorem Pl.sne (h : Pl w T c q p n s cv fl M) : s ≠ q ∧ s ≠ p ∧ cv.ownBlock ≠ some s ∧ ∀ x ∈ fl, ¬ FootF x s := by
  obtain ⟨es, cl, hn⟩ := h.sm.row
  refine ⟨(map_ne h.q_ hn).symm, (map_ne h.p_ hn).symm, fun hcv => ?_, fun x hx hf => (h.fne hx hf).2.2.2.1 rfl⟩
  obtain ⟨cur, hc⟩ := h.ch.row hcv
  exact map_ne hc hn rfl
theorem Pl.cne (h : Pl w T c q p n s cv fl M) {k : Nat} (hk : cv.ownBlock = some k) : k ≠ q ∧ k ≠ p ∧ k ≠ n ∧ k ≠ s ∧ ∀ x ∈ fl, ¬ FootF x k := by
  obtain ⟨cur, hc⟩ := h.ch.row hk
  refine ⟨tag_ne hc h.q_ (by decide), tag_ne hc h.p_ (by decide), fun e => h.nne.2.2.2.1 (e ▸ hk), fun e => h.sne.2.2.1 (e ▸ hk), fun x hx hf => (h.fne hx hf).2.2.2.2 hk⟩
/-- The plate turned: all but the files. -/
theorem Pl.plate {S : Nat → Prop} (h : Pl w T c q p n s cv fl M) (t : Tch S w w') (hSf : ∀ j, S j → j ≠ q ∧ ∀ x ∈ fl, ¬ FootF x j) {n' s' : Nat} {cv' : Value} (hp : w'.heap[p]? = some (.cells (plR M' n' s' cv') 69 (0, 0)))
    (hn : Mp w' n' M'.names (bl fl)) (hs : Mp w' s' M'.sure (bl fl)) (hns : n' ≠ s') (hch : KE.Own w' 0 cv' (M'.ch.map (evOf (bl fl)))) (hT : T n' ∧ T s' ∧ ∀ k, cv'.ownBlock = some k → T k) (hfs : M'.fs = M.fs) (wf : WfM M' c') : Pl w' T c' q p n' s' cv' fl M' :=
  ⟨t.row h.q_ (fun hs => (hSf _ hs).1 rfl), hp, h.fls.touch t (fun j hj x hx => (hSf j hj).2 x hx), h.fm.trans hfs.symm, hn, hs, hns, hch, by
    rintro k (rfl | rfl | rfl | rfl | hk | hk)
    · exact h.ft _ (.inl rfl)
    · exact h.ft _ (.inr (.inl rfl))
    · exact hT.1
    · exact hT.2.1
    · exact hT.2.2 k hk
    · exact h.ft _ (.inr (.inr (.inr (.inr (.inr hk))))), wf⟩
/-- The files turned. -/
theorem Pl.files {S : Nat → Prop} (h : Pl w T c q p n s cv fl M) (t : Tch S w w') (hSo : ∀ j, S j → j < w.heap.size → j ≠ q ∧ j ≠ p ∧ j ≠ n ∧ j ≠ s ∧ cv.ownBlock ≠ some j) {fl' : List FV} (hf : Fls w' fl') (hb : bl fl' = bl fl) (hfm : fl'.map (·.m) = M'.fs)
    (e1 : M'.off = M.off ∧ M'.fuse = M.fuse ∧ M'.fault = M.fault ∧ M'.done = M.done ∧ M'.quota = M.quota ∧ M'.names = M.names ∧ M'.sure = M.sure ∧ M'.ch = M.ch) (hT : ∀ k, w.heap.size ≤ k → T k) (hfT : ∀ x ∈ fl', ∀ k, FootF x k → T k) (wf : WfM M' c') : Pl w' T c' q p n s cv fl' M' := by
  obtain ⟨a1, a2, a3, a4, a5, a6, a7, a8⟩ := e1
  have hpl : plR M' n s cv = plR M n s cv := by unfold plR; rw [a1, a2, a3, a4, a5]
  have lt := h.lt
  refine ⟨t.row h.q_ (fun hs => (hSo _ hs (lt _ (.inl rfl))).1 rfl), by rw [hpl]; exact t.row h.p_ (fun hs => (hSo _ hs (lt _ (.inr (.inl rfl)))).2.1 rfl), hf, hfm, ?_, ?_, h.ns, ?_, ?_, wf⟩
  · rw [a6, hb]
    exact h.nm.touch t (fun hs => (hSo _ hs (lt _ (.inr (.inr (.inl rfl))))).2.2.1 rfl)
  · rw [a7, hb]
    exact h.sm.touch t (fun hs => (hSo _ hs (lt _ (.inr (.inr (.inr (.inl rfl)))))).2.2.2.1 rfl)
  · rw [a8, hb]
    exact h.ch.touch t (fun j hj hk => (hSo j hj (lt _ (.inr (.inr (.inr (.inr (.inl hk))))))).2.2.2.2 hk)
  · rintro k (rfl | rfl | rfl | rfl | hk | ⟨x, hx, hk⟩)
    · exact h.ft _ (.inl rfl)
    · exact h.ft _ (.inr (.inl rfl))
    · exact h.ft _ (.inr (.inr (.inl rfl)))
    · exact h.ft _ (.inr (.inr (.inr (.inl rfl))))
    · exact h.ft _ (.inr (.inr (.inr (.inr (.inl hk)))))
    · exact hfT x hx k hk
/-- One more file, new and empty. -/
theorem Pl.more (h : Pl w T c q p n s cv fl M) {g : Nat} (hg : Fil w ⟨g, .slice none 0 0, .slice none 0 0, f0⟩) (hn : ∀ k, Foot q p n s cv fl k → k ≠ g) (hT : T g) (hc : M.fs.length + 1 ≤ c') (hcc : c ≤ c') (hb : c' ≤ 1048576) :
    Pl w T c' q p n s cv (fl ++ [⟨g, .slice none 0 0, .slice none 0 0, f0⟩]) { M with fs := M.fs ++ [f0] } := by
  have hbl : bl (fl ++ [⟨g, .slice none 0 0, .slice none 0 0, f0⟩]) = bl fl ++ [g] := by simp [bl]
  have hlen : (bl fl).length = M.fs.length := by unfold bl; rw [List.length_map, h.len]
  have wf := h.wf
  refine ⟨h.q_, h.p_, h.fls.snoc hg (fun y hy e => hn y.g (.inr (.inr (.inr (.inr (.inr ⟨y, hy, .inl rfl⟩))))) e) rfl rfl, by simp [h.fm], ?_, ?_, h.ns, ?_, ?_, ?_⟩
  · rw [hbl]; exact h.nm.more (fun e he => by rw [hlen]; exact wf.ni e he) g
  · rw [hbl]; exact h.sm.more (fun e he => by rw [hlen]; exact wf.si e he) g
  · rw [hbl]
    have : M.ch.map (evOf (bl fl ++ [g])) = M.ch.map (evOf (bl fl)) := List.map_congr_left fun x hx => evOf_more (fun i hi => by rw [hlen]; exact wf.ci x hx i hi) g
    show KE.Own w 0 cv (M.ch.map (evOf (bl fl ++ [g])))
    rw [this]
    exact h.ch
  · rintro k (hk | hk | hk | hk | hk | ⟨x, hx, hk⟩)
    · exact h.ft _ (.inl hk)
    · exact h.ft _ (.inr (.inl hk))
    · exact h.ft _ (.inr (.inr (.inl hk)))
    · exact h.ft _ (.inr (.inr (.inr (.inl hk))))
    · exact h.ft _ (.inr (.inr (.inr (.inr (.inl hk)))))
    · rcases List.mem_append.1 hx with hx | hx
      · exact h.ft _ (.inr (.inr (.inr (.inr (.inr ⟨x, hx, hk⟩)))))
      · rw [List.mem_singleton.1 hx] at hk
        rcases hk with rfl | hk | hk
        · exact hT
        · cases hk
        · cases hk
  · refine ⟨wf.nn, wf.sn, fun e he => ?_, fun e he => ?_, fun x hx i hi => ?_, fun f hf => ?_, Nat.le_trans wf.ln hcc, Nat.le_trans wf.lc hcc, ?_, hb, wf.qu, wf.fu, wf.fa, wf.nz, wf.cz, wf.sz⟩
    · have := wf.ni e he; simp; omega
    · have := wf.si e he; simp; omega
    · have := wf.ci x hx i hi; simp; omega
    · rcases List.mem_append.1 hf with hf | hf
      · exact wf.fw f hf
      · rw [List.mem_singleton.1 hf]
        exact ⟨rfl, by simp [f0], by simp [f0]⟩
    · simp; omega
theorem wf_up (h : WfM M c) (hc : c ≤ c') (hb : c' ≤ 1048576) : WfM M c' :=
  ⟨h.nn, h.sn, h.ni, h.si, h.ci, h.fw, Nat.le_trans h.ln hc, Nat.le_trans h.lc hc, Nat.le_trans h.lf hc, hb, h.qu, h.fu, h.fa, h.nz, h.cz, h.sz⟩
def EfOk (M : DM) (x : Ef) : Prop := (∀ i ∈ efi x, i < M.fs.length) ∧ match x with | .create k _ => k.size ≤ 64 | .rename a b => a.size ≤ 64 ∧ b.size ≤ 64 | .remove k => k.size ≤ 64
theorem keys_change {N : NM} {x : Ef} (hz : ∀ e ∈ N, e.1.size ≤ 64) (hx : match x with | .create k _ => k.size ≤ 64 | .rename a b => a.size ≤ 64 ∧ b.size ≤ 64 | .remove k => k.size ≤ 64) : ∀ e ∈ nchange N x, e.1.size ≤ 64 := by
  have hput : ∀ {N : NM} {k i}, (∀ e ∈ N, e.1.size ≤ 64) → k.size ≤ 64 → ∀ e ∈ nput N k i, e.1.size ≤ 64 := by
    intro N k i hz hk e he
    rcases List.mem_append.1 he with he | he
    · exact hz e (List.mem_filter.1 he).1
    · rw [List.mem_singleton.1 he]; exact hk
  have hdel : ∀ {N : NM} {k}, (∀ e ∈ N, e.1.size ≤ 64) → ∀ e ∈ ndel k N, e.1.size ≤ 64 := fun hz e he => hz e (List.mem_filter.1 he).1
  cases x with
  | create k i => exact hput hz hx
  | rename a b =>
    show ∀ e ∈ nren N a b, e.1.size ≤ 64
    cases hl : nlook N a with
    | none => rw [ren_none hl]; exact hz
    | some i => rw [ren_some hl]; exact hput (hdel hz) hx.2
  | remove k => exact hdel hz
theorem wf_change (h : WfM M c) {x : Ef} (hx : EfOk M x) (hb : c + 1 ≤ 1048576) : WfM (changeM M x) (c + 1) := by
  have h1 := h.ln
  have h2 := h.lc
  refine ⟨nodup_change h.nn x, h.sn, fun e he => ?_, h.si, fun y hy => ?_, h.fw, ?_, ?_, Nat.le_succ_of_le h.lf, hb, h.qu, h.fu, h.fa, keys_change h.nz hx.2, fun y hy => ?_, h.sz⟩
  · rcases mem_change he with ⟨e', he', hh⟩ | hh
    · rw [← hh]; exact h.ni e' he'
    · exact hx.1 _ hh
  · rcases List.mem_append.1 hy with hy | hy
    · exact h.ci y hy
    · rw [List.mem_singleton.1 hy]; exact hx.1
  · have := len_change M.names x; show (nchange M.names x).length ≤ _; omega
  · show M.sure.length + (M.ch ++ [x]).length ≤ _; rw [List.length_append, List.length_singleton]; omega
  · rcases List.mem_append.1 hy with hy | hy
    · exact h.cz y hy
    · rw [List.mem_singleton.1 hy]; exact hx.2
/-- A change of the names, kept with the others. -/
theorem pchange_is (h : Pl w T c q p n s cv fl M) (hT : ∀ k, w.heap.size ≤ k → T k) (x : Ef) (hx : EfOk M x) (hb : c + 1 ≤ 1048576) :
    Calls Try.prog 57 #[.pointer (some ⟨p, 0, none⟩), evV (evOf (bl fl) x)] w fun e w' => e = .returned (.tuple #[]) ∧ ∃ cv', Pl w' T (c + 1) q p n s cv' fl (changeM M x) ∧ Tch T w w' := by
  have hwf := h.wf
  have hN := nchange_is h.nm hwf.nn (Nat.le_trans hwf.ln hwf.hc) x hx.2
  have c5 : w.cell? ⟨p, 5, none⟩ = some (.map (some n)) := held_cell h.p_ rfl
  obtain ⟨nq, np, nns, ncv, nf⟩ := h.nne
  obtain ⟨pq, pn, ps, pc, pf⟩ := h.pne
  have hNext : ∀ w1, Mp w1 n (nchange M.names x) (bl fl) → Tch (· = n) w w1 → w1.cell? ⟨p, 7, none⟩ = some cv ∧ ∃ A L C w2, (Builtin.append_ #[67, 67] 67 #[cv, .slice (some ⟨w1.heap.size, 0, none⟩) 1 1]).run Try.prog (w1.alloc (.cells #[evV (evOf (bl fl) x)] 72)) = .ok (.slice A L C) w2 ∧
      w2.cell? ⟨p, 7, none⟩ = some cv ∧ w2.frozen? ⟨p, 7, none⟩ = false ∧ Hid (Pl (w2.setCell ⟨p, 7, none⟩ (.slice A L C)) T (c + 1) q p n s (.slice A L C) fl (changeM M x) ∧ Tch T w (w2.setCell ⟨p, 7, none⟩ (.slice A L C))) := by
    intro w1 hm t1
    have p1 := t1.row h.p_ (fun e => pn e)
    have o1 := h.ch.touch t1 (fun j hj hk => ncv (by rw [← hj]; exact hk))
    have ta : Tch (fun _ => False) w1 (w1.alloc (.cells #[evV (evOf (bl fl) x)] 72)) := Tch.alloc _ _ _
    have o2 := o1.touch ta (fun j hj => hj.elim)
    have r2 := Kd.one_rd (K := KE) w1 (evOf (bl fl) x)
    have hcl := hwf.lc
    obtain ⟨v2, w2, run2, o3, g3, n3⟩ := Kd.run_app_at (K := KE) (P := Try.prog) 67 67 Try.underlying67 infoE rfl cv _ _ [evOf (bl fl) x] o2 r2 (by simp; unfold maxLen; omega) (by simp; omega)
    have hv2 := o3.rd.form
    obtain ⟨A, C, hv2, _⟩ := hv2
    generalize (M.ch.map (evOf (bl fl)) ++ [evOf (bl fl) x]).length = L at hv2
    subst hv2
    have p2 := ta.row p1 (fun h => h)
    have t3 : Tch (fun k => cv.ownBlock = some k) (w1.alloc (.cells #[evV (evOf (bl fl) x)] 72)) w2 := Tch.grown g3 (fun k hk => hk)
    have p3 := t3.row p2 (fun e => pc e)
    have t4 : Tch (· = p) w2 (w2.setCell ⟨p, 7, none⟩ (.slice A L C)) := Tch.set (· = p) w2 ⟨p, 7, none⟩ _ rfl
    have p4 := row_set (i := 7) p3 (.slice A L C)
    have tall : Tch (fun k => k = n ∨ cv.ownBlock = some k ∨ k = p) w (w2.setCell ⟨p, 7, none⟩ (.slice A L C)) := (t1.mono (fun k hk => .inl hk)).trans ((ta.mono (fun k hk => hk.elim)).trans ((t3.mono (fun k hk => .inr (.inl hk))).trans (t4.mono (fun k hk => .inr (.inr hk)))))
    refine ⟨held_cell p1 rfl, A, L, C, w2, run2, held_cell p3 rfl, held_frozen p3, hid ⟨?_, tall.mono (fun k hk => ?_)⟩⟩
    · refine h.plate tall ?_ ?_ ?_ ?_ h.ns ?_ ⟨h.ft _ (.inr (.inr (.inl rfl))), h.ft _ (.inr (.inr (.inr (.inl rfl)))), fun k hk => ?_⟩ rfl (wf_change hwf hx hb)
      · rintro j (rfl | hj | rfl)
        · exact ⟨nq, nf⟩
        · exact ⟨(h.cne hj).1, (h.cne hj).2.2.2.2⟩
        · exact ⟨pq, pf⟩
      · rw [p4]; rfl
      · refine (hm.touch (ta.mono (T := fun k => cv.ownBlock = some k ∨ k = p) (fun k hk => hk.elim)) (fun hs => ?_)).touch ((t3.mono (T := fun k => cv.ownBlock = some k ∨ k = p) (fun k hk => .inl hk)).trans (t4.mono (fun k hk => .inr hk))) (fun hs => ?_)
        · rcases hs with hs | hs
          · exact ncv hs
          · exact np hs
        · rcases hs with hs | hs
          · exact ncv hs
          · exact np hs
      · refine h.sm.touch tall ?_
        rintro (hs | hs | hs)
        · exact h.ns hs.symm
        · exact h.sne.2.2.1 hs
        · exact h.sne.2.1 hs
      · have e : (changeM M x).ch.map (evOf (bl fl)) = M.ch.map (evOf (bl fl)) ++ [evOf (bl fl) x] := by simp [changeM]
        rw [e]
        refine o3.touch t4 (fun j hj hk => ?_)
        obtain ⟨cur, hc⟩ := o3.row hk
        exact tag_ne hc p3 (by decide) hj
      · rcases n3 with e | e
        · exact h.ft _ (.inr (.inr (.inr (.inr (.inl (by rw [← e]; exact hk))))))
        · rw [e] at hk
          injection hk with hk
          have := t1.size
          rw [World.size_alloc] at hk
          exact hT _ (by omega)
    · rcases hk with rfl | hk | rfl
      · exact h.ft _ (.inr (.inr (.inl rfl)))
      · exact h.ft _ (.inr (.inr (.inr (.inr (.inl hk)))))
      · exact h.ft _ (.inr (.inl rfl))
  clear h hwf nf pf ncv pc
  obtain ⟨t', v', hev⟩ : ∃ t' v', evV (evOf (bl fl) x) = .iface t' v' := by cases x <;> exact ⟨_, _, rfl⟩
  rw [hev] at hN ⊢
  simp only [hev] at hNext
  clear hev
  go_enter Try.func57, Try.ntmps57
  go_wp2_with (first
    | (go_at_call 32; refine hN.mono ?_; rintro e1 w1 ⟨rfl, m1, t1⟩; obtain ⟨c7, A, L, C, w2, run2, c72, f72, HE⟩ := hNext w1 m1 t1; clear hNext hN)
    | (at_builtin; refine wpl_run rfl (.tmp 14) (.tmp 16) 67 rfl _ _ _ w2 rfl rfl run2 ?_))
  go_end0
  exact ⟨rfl, _, HE.out⟩
end Go.Proofs.Ytjpneohachkheaa
