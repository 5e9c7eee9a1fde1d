/-
  An effect done. Conditions: those that each theorem names.
-/
import Derived.Test.YtjpneohachkheaaSm8
import Derived.Test.YtjpneohachkheaaSmk
namespace Go.Proofs.Ytjpneohachkheaa
open Go.RowKit Go.Icz Go.Maps Go.ChangeMaps Go.MapKept
set_option maxRecDepth 100000
set_option maxHeartbeats 1000000
variable {w w' : World} {T T' : Nat → Prop} {c c' q p n s : Nat} {cv : Value} {fl : List FV} {M M' : DM}
theorem Pl.re (h : Pl w T c q p n s cv fl M) (hT : ∀ k, Foot q p n s cv fl k → T' k) : Pl w T' c q p n s cv fl M := ⟨h.q_, h.p_, h.fls, h.fm, h.nm, h.sm, h.ns, h.ch, hT, h.wf⟩
theorem Pl.up (h : Pl w T c q p n s cv fl M) (hc : c ≤ c') (hb : c' ≤ 1048576) : Pl w T c' q p n s cv fl M := ⟨h.q_, h.p_, h.fls, h.fm, h.nm, h.sm, h.ns, h.ch, h.ft, wf_up h.wf hc hb⟩
theorem sClone_is (s : ByteArray) (hs : s.size ≤ 281474976710656) (w : World) : Calls Try.prog 58 #[.string s] w fun e w' => e = .returned (.string s) ∧ Below w.heap.size w w' := by
  have hC : ∀ w2 : World, Calls Try.prog 64 #[.string s] w2 fun e w' => e = .returned (.string s) ∧ Below w2.heap.size w2 w' := fun w2 => Any.stringslite_Clone Try.laysM316 s w2 hs
  clear hs
  go_enter Try.func58, Try.ntmps58
  go_wp2_with (go_at_call 64; refine (hC _).mono ?_; rintro e w1 ⟨rfl, b1⟩)
  go_ret
  exact ⟨rfl, b1⟩
theorem below_tch {S : Nat → Prop} (h : Below w.heap.size w w') : Tch S w w' := Tch.of_below h
/-- What an effect leaves. -/
def Done (w : World) (T : Nat → Prop) (c q p : Nat) (M : DM) (w' : World) : Prop := (∃ n s cv fl, Pl w' T c q p n s cv fl M) ∧ Tch T w w'
theorem do_create (h : Pl w T c q p n s cv fl M) (hT : ∀ k, w.heap.size ≤ k → T k) (k : ByteArray) (hk : k.size ≤ 64) {g : Nat} (hg : Fil w ⟨g, .slice none 0 0, .slice none 0 0, f0⟩) (hne : ∀ j, Foot q p n s cv fl j → j ≠ g) (hTg : T g) (hb : c + 2 ≤ 1048576) :
    Calls Try.prog 48 #[.pointer (some ⟨p, 0, none⟩), .iface 85 (.agg #[.string k, .pointer (some ⟨g, 0, none⟩)])] w fun e w' => e = .returned (.tuple #[]) ∧ Done w T (c + 2) q p (actCreate k M) w' := by
  have hl := h.wf.lf
  have hgl := hg.lt (k := g) (.inl rfl)
  have ta : Tch (fun _ => False) w (w.alloc (.cells #[.string k, .pointer (some ⟨g, 0, none⟩)] 85)).drew := (Tch.alloc _ _ _).trans (Tch.drew _ _)
  have h1 := (h.touch0 ta).more (c' := c + 1) (hg.touch ta (fun _ h => h.elim)) hne hTg (by omega) (by omega) (by omega)
  have hSC := sClone_is k (by omega) (w.alloc (.cells #[.string k, .pointer (some ⟨g, 0, none⟩)] 85)).drew
  have hkk : (w.alloc (.cells #[.string k, .pointer (some ⟨g, 0, none⟩)] 85)).cell? ⟨w.heap.size, 0, none⟩ = some (.string k) ∧ (w.alloc (.cells #[.string k, .pointer (some ⟨g, 0, none⟩)] 85)).cell? ⟨w.heap.size, 1, none⟩ = some (.pointer (some ⟨g, 0, none⟩)) := ⟨held_cell (heap_alloc_new w _) rfl, held_cell (heap_alloc_new w _) rfl⟩
  have hNext : ∀ w1, Below (w.alloc (.cells #[.string k, .pointer (some ⟨g, 0, none⟩)] 85)).drew.heap.size (w.alloc (.cells #[.string k, .pointer (some ⟨g, 0, none⟩)] 85)).drew w1 → (w1.cell? ⟨w.heap.size, 0, none⟩ = some (.string k) ∧ w1.cell? ⟨w.heap.size, 1, none⟩ = some (.pointer (some ⟨g, 0, none⟩))) ∧ Calls Try.prog 57 #[.pointer (some ⟨p, 0, none⟩), .iface 85 (.agg #[.string k, .pointer (some ⟨g, 0, none⟩)])] w1 fun e w' => e = .returned (.tuple #[]) ∧ Hid (Done w T (c + 2) q p (actCreate k M) w') ∧ (w'.cell? ⟨w.heap.size, 0, none⟩ = some (.string k) ∧ w'.cell? ⟨w.heap.size, 1, none⟩ = some (.pointer (some ⟨g, 0, none⟩))) := fun w1 b1 => by
    have hsA : (w.alloc (.cells #[.string k, .pointer (some ⟨g, 0, none⟩)] 85)).drew.heap.size = w.heap.size + 1 := World.size_alloc _ _
    have hlt := h.lt
    have hs1 := b1.size
    have hk1 : w1.cell? ⟨w.heap.size, 0, none⟩ = some (.string k) ∧ w1.cell? ⟨w.heap.size, 1, none⟩ = some (.pointer (some ⟨g, 0, none⟩)) := ⟨(b1.cell (p := ⟨w.heap.size, 0, none⟩) (by rw [hsA]; exact Nat.lt_succ_self _)).trans hkk.1, (b1.cell (p := ⟨w.heap.size, 1, none⟩) (by rw [hsA]; exact Nat.lt_succ_self _)).trans hkk.2⟩
    have h2 := (h1.below b1).re (T' := fun j => T j ∧ j ≠ w.heap.size) (fun j hj => by
      refine ⟨h1.ft j hj, ?_⟩
      rcases hj with hj | hj | hj | hj | hj | ⟨x, hx, hj⟩
      · have := hlt j (.inl hj); omega
      · have := hlt j (.inr (.inl hj)); omega
      · have := hlt j (.inr (.inr (.inl hj))); omega
      · have := hlt j (.inr (.inr (.inr (.inl hj)))); omega
      · have := hlt j (.inr (.inr (.inr (.inr (.inl hj))))); omega
      · rcases List.mem_append.1 hx with hx | hx
        · have := hlt j (.inr (.inr (.inr (.inr (.inr ⟨x, hx, hj⟩))))); omega
        · rw [List.mem_singleton.1 hx] at hj
          rcases hj with hj | hj | hj
          · have hj : j = g := hj
            omega
          · cases hj
          · cases hj)
    have hev : evV (evOf (bl (fl ++ [⟨g, .slice none 0 0, .slice none 0 0, f0⟩])) (.create k M.fs.length)) = .iface 85 (.agg #[.string k, .pointer (some ⟨g, 0, none⟩)]) := by
      have : (bl (fl ++ [(⟨g, .slice none 0 0, .slice none 0 0, f0⟩ : FV)])).getD M.fs.length 0 = g := by
        unfold bl
        rw [← h.len, List.getD_eq_getElem?_getD, List.getElem?_map, List.getElem?_append_right (Nat.le_refl _), Nat.sub_self]
        rfl
      unfold evOf evV
      simp only [this]
    refine ⟨hk1, ?_⟩
    rw [← hev]
    refine (pchange_is h2 (fun j hj => ⟨hT j (by rw [hsA] at hs1; omega), by rw [hsA] at hs1; omega⟩) (.create k M.fs.length) ⟨fun i hi => ?_, hk⟩ (by omega)).mono ?_
    · have : i = M.fs.length := by simpa [efi] using hi
      rw [this]
      simp
    rintro e w' ⟨rfl, cv', P, t⟩
    have hc := fun i => t.cell (b := w.heap.size) (i := i) (by rw [hsA] at hs1; omega) (fun hh => hh.2 rfl)
    refine ⟨rfl, hid ⟨⟨_, _, _, _, P.re (fun j hj => (P.ft j hj).1)⟩, (ta.mono (fun _ h => h.elim)).trans ((below_tch b1).trans (t.mono (fun j hj => hj.1)))⟩, (hc 0).trans hk1.1, (hc 1).trans hk1.2⟩
  have as0 := as_create_create
  clear h h1 hk hb ta hT hg hne hTg hl hgl
  have tk := True.intro
  go_enter Try.func48, Try.ntmps48
  go_wp2_with fail
  go_region_held3 (fun w' => w'.cell? ⟨w.heap.size, 0, none⟩ = some (.string k) ∧ w'.cell? ⟨w.heap.size, 1, none⟩ = some (.pointer (some ⟨g, 0, none⟩))) (exact hkk) (first
    | (go_at_call 58; clear tk; refine hSC.mono ?_; rintro e1 w1 ⟨rfl, b1⟩; obtain ⟨hkk, hC⟩ := hNext w1 b1; clear hSC hNext)
    | (go_at_call 57; refine hC.mono ?_; rintro e2 w2 ⟨rfl, D2, hkk⟩; clear hC))
  go_end0
  exact ⟨rfl, D2.out⟩
theorem do_remove (h : Pl w T c q p n s cv fl M) (hT : ∀ k, w.heap.size ≤ k → T k) (k : ByteArray) (hk : k.size ≤ 64) (hb : c + 1 ≤ 1048576) :
    Calls Try.prog 48 #[.pointer (some ⟨p, 0, none⟩), .iface 91 (.agg #[.string k])] w fun e w' => e = .returned (.tuple #[]) ∧ Done w T (c + 1) q p (actRemove k M) w' := by
  have ta : Tch (fun _ => False) w (w.alloc (.cells #[.string k] 91)) := Tch.alloc _ _ _
  have h1 := h.touch0 ta
  have hSC := sClone_is k (by omega) (w.alloc (.cells #[.string k] 91))
  have hNext : ∀ w1, Below (w.alloc (.cells #[.string k] 91)).heap.size (w.alloc (.cells #[.string k] 91)) w1 → Calls Try.prog 57 #[.pointer (some ⟨p, 0, none⟩), .iface 91 (.agg #[.string k])] w1 fun e w' => e = .returned (.tuple #[]) ∧ Done w T (c + 1) q p (actRemove k M) w' := fun w1 b1 => by
    have h2 := h1.below b1
    have hs2 := b1.size
    refine (pchange_is h2 (fun j hj => hT j (by have := ta.size; omega)) (.remove k) ⟨by simp [efi], hk⟩ hb).mono ?_
    rintro e w' ⟨rfl, cv', P, t⟩
    exact ⟨rfl, ⟨_, _, _, _, P⟩, (ta.mono (fun _ h => h.elim)).trans ((below_tch b1).trans t)⟩
  have as0 := as_remove_create
  have as1 := as_remove_extend
  have as2 := as_remove_rename
  have as3 := as_remove_remove
  clear h h1 hk hb ta
  have tk := True.intro
  go_enter Try.func48, Try.ntmps48
  go_wp2_with (first
    | (go_at_call 58; clear tk; refine hSC.mono ?_; rintro e1 w1 ⟨rfl, b1⟩; have hC := hNext w1 b1; clear hSC hNext)
    | (go_at_call 57; refine hC.mono ?_; rintro e2 w2 ⟨rfl, D2⟩; clear hC))
  go_end0
  exact ⟨rfl, D2⟩
theorem do_dir (h : Pl w T c q p n s cv fl M) (hT : ∀ k, w.heap.size ≤ k → T k) :
    Calls Try.prog 48 #[.pointer (some ⟨p, 0, none⟩), .iface 94 (.agg #[])] w fun e w' => e = .returned (.tuple #[]) ∧ Done w T c q p (actDir M) w' := by
  have ta : Tch (fun _ => False) w (w.alloc (.cells #[] 94)) := Tch.alloc _ _ _
  have h1 := h.touch0 ta
  have hMC := mpClone_is h1.nm
  have c5 : (w.alloc (.cells #[] 94)).cell? ⟨p, 5, none⟩ = some (.map (some n)) := held_cell h1.p_ rfl
  have hNext : ∀ w1, Mp w1 (w.alloc (.cells #[] 94)).heap.size M.names (bl fl) → Below (w.alloc (.cells #[] 94)).heap.size (w.alloc (.cells #[] 94)) w1 → w1.cell? ⟨p, 6, none⟩ = some (.map (some s)) ∧ w1.cell? ⟨p, 7, none⟩ = some cv ∧ w1.frozen? ⟨p, 6, none⟩ = false ∧ w1.frozen? ⟨p, 7, none⟩ = false ∧
      Hid (Done w T c q p (actDir M) ((w1.setCell ⟨p, 6, none⟩ (.map (some (w.alloc (.cells #[] 94)).heap.size))).setCell ⟨p, 7, none⟩ (.slice none 0 0))) := fun w1 m1 b1 => by
    have h2 := h1.below b1
    have hlt := h1.lt
    refine ⟨held_cell h2.p_ rfl, held_cell h2.p_ rfl, held_frozen h2.p_, held_frozen h2.p_, hid ?_⟩
    have t1 : Tch (· = p) w1 ((w1.setCell ⟨p, 6, none⟩ (.map (some (w.alloc (.cells #[] 94)).heap.size))).setCell ⟨p, 7, none⟩ (.slice none 0 0)) := (Tch.set (· = p) _ ⟨p, 6, none⟩ _ rfl).trans (Tch.set (· = p) _ ⟨p, 7, none⟩ _ rfl)
    have r1 := row_set (i := 7) (row_set (i := 6) h2.p_ (.map (some (w.alloc (.cells #[] 94)).heap.size))) (.slice none 0 0)
    obtain ⟨pq, pn, ps, pc, pf⟩ := h2.pne
    have hn' : n < (w.alloc (.cells #[] 94)).heap.size := hlt n (.inr (.inr (.inl rfl)))
    have hp' : p < (w.alloc (.cells #[] 94)).heap.size := hlt p (.inr (.inl rfl))
    have wf := h.wf
    refine ⟨⟨n, (w.alloc (.cells #[] 94)).heap.size, .slice none 0 0, fl, h2.plate t1 (fun j hj => hj ▸ ⟨pq, pf⟩) (by rw [r1]; rfl) (h2.nm.touch t1 (fun e => pn e.symm)) (m1.touch t1 (fun e => by omega)) (by omega) (Kd.Own.nil _ _) ⟨h.ft _ (.inr (.inr (.inl rfl))), hT _ (by rw [World.size_alloc]; omega), fun k hk => (by cases hk)⟩ rfl ?_⟩, ?_⟩
    · exact ⟨wf.nn, wf.nn, wf.ni, wf.ni, fun x hx => absurd hx (by simp [actDir]), wf.fw, wf.ln, by show M.names.length + 0 ≤ c; have := wf.ln; omega, wf.lf, wf.hc, wf.qu, wf.fu, wf.fa, wf.nz, fun x hx => absurd hx (by simp [actDir]), wf.nz⟩
    · exact (ta.mono (fun _ h => h.elim)).trans ((below_tch b1).trans (t1.mono (fun j hj => h.ft _ (.inr (.inl hj)))))
  have as0 := as_syncNames_create
  have as1 := as_syncNames_extend
  have as2 := as_syncNames_rename
  have as3 := as_syncNames_remove
  have as4 := as_syncNames_syncFile
  have as5 := as_syncNames_syncNames
  clear h h1 hT ta
  generalize hW : (w.alloc (.cells #[] 94)).heap.size = sz at *
  have HW := hid hW
  clear hW
  go_enter Try.func48, Try.ntmps48
  go_wp2_with (go_at_call 35; refine hMC.mono ?_; rintro e1 w1 ⟨rfl, m1, b1⟩; obtain ⟨c6, c7, f6, f7, HE⟩ := hNext w1 m1 b1; clear hMC hNext)
  go_end0
  exact ⟨rfl, HE.out⟩
theorem set_wf (h : WfM M c) {i : Nat} (hi : i < M.fs.length) {f : FM} (hf : f.s + f.ps.sum = f.b.length ∧ f.b.length ≤ 1048576 ∧ ∀ n ∈ f.ps, 0 < n) : WfM (setF M i f) c := by
  have hl : (M.fs.set i f).length = M.fs.length := List.length_set
  refine ⟨h.nn, h.sn, fun e he => ?_, fun e he => ?_, fun x hx j hj => ?_, fun y hy => ?_, h.ln, h.lc, ?_, h.hc, h.qu, h.fu, h.fa, h.nz, h.cz, h.sz⟩
  · show e.2 < (M.fs.set i f).length; rw [hl]; exact h.ni e he
  · show e.2 < (M.fs.set i f).length; rw [hl]; exact h.si e he
  · show j < (M.fs.set i f).length; rw [hl]; exact h.ci x hx j hj
  · rcases List.mem_or_eq_of_mem_set hy with hy | rfl
    · exact h.fw y hy
    · exact hf
  · show (M.fs.set i f).length ≤ c; rw [hl]; exact h.lf
/-- One file turned. -/
theorem Pl.setF {S : Nat → Prop} (h : Pl w T c q p n s cv fl M) (hT : ∀ k, w.heap.size ≤ k → T k) {i : Nat} (hi : i < fl.length) {x' : FV} (hx : Fil w' x') (t : Tch S w w') (hS : ∀ j, S j → j < w.heap.size → FootF fl[i] j) (hg : x'.g = fl[i].g)
    (hb : ∀ k, x'.bv.ownBlock = some k → fl[i].bv.ownBlock = some k ∨ w.heap.size ≤ k) (hp : ∀ k, x'.pv.ownBlock = some k → fl[i].pv.ownBlock = some k ∨ w.heap.size ≤ k) (hf : x'.m.s + x'.m.ps.sum = x'.m.b.length ∧ x'.m.b.length ≤ 1048576 ∧ ∀ n ∈ x'.m.ps, 0 < n) :
    Pl w' T c q p n s cv (fl.set i x') (Go.Icz.setF M i x'.m) := by
  have hmem := List.getElem_mem hi
  have hFT : ∀ k, FootF fl[i] k → T k := fun k hk => h.ft _ (.inr (.inr (.inr (.inr (.inr ⟨_, hmem, hk⟩)))))
  refine h.files t (fun j hj hlt => h.fne hmem (hS j hj hlt)) (h.fls.set hi hx t hS hg hb hp) ?_ ?_ ⟨rfl, rfl, rfl, rfl, rfl, rfl, rfl, rfl⟩ hT (fun x hx k hk => ?_) (set_wf h.wf (by rw [← h.len]; exact hi) hf)
  · unfold bl
    rw [List.map_set, hg]
    apply List.ext_getElem
    · simp
    · intro j h1 h2
      rw [List.getElem_set]
      split
      · rename_i e; subst e; simp
      · rfl
  · show _ = M.fs.set i x'.m
    rw [List.map_set, h.fm]
  · rcases List.mem_or_eq_of_mem_set hx with hx | rfl
    · exact h.ft _ (.inr (.inr (.inr (.inr (.inr ⟨x, hx, hk⟩)))))
    · rcases hk with hk | hk | hk
      · rw [hk, hg]; exact hFT _ (.inl rfl)
      · rcases hb k hk with hk | hk
        · exact hFT _ (.inr (.inl hk))
        · exact hT k hk
      · rcases hp k hk with hk | hk
        · exact hFT _ (.inr (.inr hk))
        · exact hT k hk
theorem Done.trans0 {w1 : World} {c q p : Nat} {M : DM} (t : Tch T w w1) (h : Done w1 T c q p M w') : Done w T c q p M w' := ⟨h.1, t.trans h.2⟩
theorem do_sync (h : Pl w T c q p n s cv fl M) (hT : ∀ k, w.heap.size ≤ k → T k) (k : ByteArray) (hk : k.size ≤ maxLen) (hth : (nlook M.names k).isSome = true) :
    Calls Try.prog 48 #[.pointer (some ⟨p, 0, none⟩), .iface 92 (.agg #[.string k])] w fun e w' => e = .returned (.tuple #[]) ∧ Done w T c q p (actSync k M) w' := by
  obtain ⟨i, hi⟩ := Option.isSome_iff_exists.1 hth
  have hil : i < M.fs.length := h.wf.ni _ (look_mem hi)
  obtain ⟨hil', hgd, hfm, _⟩ := h.at_ hil
  have ta : Tch (fun _ => False) w (w.alloc (.cells #[.string k] 92)).drew := (Tch.alloc _ _ _).trans (Tch.drew _ _)
  have h1 := h.touch0 ta
  have hF := h1.fls.each _ (List.getElem_mem hil')
  have hS := fsync_is hF (Nat.le_trans (h.wf.fw fl[i].m (by rw [← h.fm]; exact List.mem_map.2 ⟨_, List.getElem_mem hil', rfl⟩)).2.1 (by omega))
  have hlk := h1.nm.look1 k hk
  have hkk : (w.alloc (.cells #[.string k] 92)).cell? ⟨p, 5, none⟩ = some (.map (some n)) ∧ (w.alloc (.cells #[.string k] 92)).cell? ⟨w.heap.size, 0, none⟩ = some (.string k) := ⟨held_cell (h.touch0 (Tch.alloc _ _ _)).p_ rfl, held_cell (heap_alloc_new w _) rfl⟩
  have hw := h.wf.fw fl[i].m (by rw [← h.fm]; exact List.mem_map.2 ⟨_, List.getElem_mem hil', rfl⟩)
  have hNext : ∀ w2, Fil w2 ⟨fl[i].g, fl[i].bv, .slice none 0 0, synF fl[i].m⟩ → Tch (· = fl[i].g) (w.alloc (.cells #[.string k] 92)).drew w2 → Hid (Done w T c q p (actSync k M) w2) ∧ (w2.cell? ⟨p, 5, none⟩ = some (.map (some n)) ∧ w2.cell? ⟨w.heap.size, 0, none⟩ = some (.string k)) := fun w2 f2 t2 => by
    have P := h1.setF (fun j hj => hT j (by have := ta.size; omega)) hil' f2 t2 (fun j hj _ => .inl hj) rfl (fun k hk => .inl hk) (fun k hk => by cases hk) ⟨by simp [synF], by simp [synF]; exact hw.2.1, by simp [synF]⟩
    have e : actSync k M = Go.Icz.setF M i (synF fl[i].m) := by unfold actSync; rw [hi, hfm]
    have hgl := (h.fls.each _ (List.getElem_mem hil')).lt (k := fl[i].g) (.inl rfl)
    refine ⟨hid ⟨⟨_, _, _, _, by rw [e]; exact P⟩, (ta.mono (fun _ h => h.elim)).trans (t2.mono (fun j hj => h.ft _ (.inr (.inr (.inr (.inr (.inr ⟨_, List.getElem_mem hil', .inl hj⟩)))))))⟩, held_cell P.p_ rfl, ?_⟩
    have := t2.cell (b := w.heap.size) (i := 0) (by show w.heap.size < (w.alloc _).heap.size; rw [World.size_alloc]; omega) (fun e => by omega)
    rw [this]
    exact hkk.2
  unfold ptO at hlk
  rw [hi] at hlk
  simp only at hlk
  rw [hgd] at hlk
  have as0 := as_syncFile_create
  have as1 := as_syncFile_extend
  have as2 := as_syncFile_rename
  have as3 := as_syncFile_remove
  have as4 := as_syncFile_syncFile
  clear h h1 hT ta hF hil hgd hfm hw hi
  generalize fl[i].g = g at *
  generalize synF fl[i].m = sf at *
  go_enter Try.func48, Try.ntmps48
  go_wp2_with fail
  go_region_held3 (fun w' => w'.cell? ⟨p, 5, none⟩ = some (.map (some n)) ∧ w'.cell? ⟨w.heap.size, 0, none⟩ = some (.string k)) (exact hkk) (first | (go_at_call 44; refine hS.mono ?_; rintro e2 w2 ⟨rfl, f2, t2⟩; obtain ⟨HD, hkk⟩ := hNext w2 f2 t2; clear hS hNext))
  go_end0
  exact ⟨rfl, HD.out⟩
theorem str_ne {a b : ByteArray} (h : a ≠ b) : (a.toList == b.toList) = false := beq_eq_false_iff_ne.2 fun e => h (by rw [ByteArray.toList_eq, ByteArray.toList_eq] at e; exact ByteArray.ext (Array.ext' e))
theorem used_mem {fs : List FM} {N : NM} {e : ByteArray × Nat} (h : e ∈ N) : (fileAt fs e.2).b.length ≤ used fs N := by
  unfold used
  induction N with
  | nil => cases h
  | cons a r ih =>
    rw [List.map_cons, List.sum_cons]
    rcases List.mem_cons.1 h with rfl | h
    · omega
    · have := ih h
      omega
theorem do_extend (h : Pl w T c q p n s cv fl M) (hT : ∀ k, w.heap.size ≤ k → T k) (k : ByteArray) (hk : k.size ≤ maxLen) (hth : (nlook M.names k).isSome = true) {A : Option Addr} {L C : Nat} {l : List Nat} (hu : KB.Rd w (.slice A L C) l) (hq : used M.fs M.names + l.length ≤ M.quota) :
    Calls Try.prog 48 #[.pointer (some ⟨p, 0, none⟩), .iface 87 (.agg #[.string k, .slice A L C])] w fun e w' => e = .returned (.tuple #[]) ∧ Done w T c q p (actMore k l M) w' := by
  obtain ⟨i, hi⟩ := Option.isSome_iff_exists.1 hth
  have hil : i < M.fs.length := h.wf.ni _ (look_mem hi)
  obtain ⟨hil', hgd, hfm, _⟩ := h.at_ hil
  have ta : Tch (fun _ => False) w (w.alloc (.cells #[.string k, .slice A L C] 87)).drew := (Tch.alloc _ _ _).trans (Tch.drew _ _)
  have h1 := h.touch0 ta
  have hF := h1.fls.each _ (List.getElem_mem hil')
  have hw := h.wf.fw fl[i].m (by rw [← h.fm]; exact List.mem_map.2 ⟨_, List.getElem_mem hil', rfl⟩)
  have hul : fl[i].m.b.length + l.length ≤ 1048576 := by
    have h1 : (fileAt M.fs i).b.length ≤ used M.fs M.names := used_mem (fs := M.fs) (look_mem hi)
    rw [← hfm] at h1
    have h2 := h.wf.qu
    omega
  have hpl : fl[i].m.ps.length ≤ fl[i].m.ps.sum := by
    have : ∀ l : List Nat, (∀ n ∈ l, 0 < n) → l.length ≤ l.sum := by
      intro l
      induction l with
      | nil => intro _; simp
      | cons a r ih =>
        intro hh
        have h1 := ih (fun n hn => hh n (List.mem_cons_of_mem _ hn))
        have h2 := hh a (List.mem_cons_self ..)
        rw [List.length_cons, List.sum_cons]
        omega
    exact this _ hw.2.2
  have hS := fextend_is hF _ l (rd_touch hu ta (fun _ _ _ h => h)) (Nat.le_trans hul (by omega)) (by have h1 := hw.1; have h2 := hw.2.1; omega)
  have hlk := h1.nm.look1 k hk
  have hkk : (w.alloc (.cells #[.string k, .slice A L C] 87)).cell? ⟨p, 5, none⟩ = some (.map (some n)) ∧ (w.alloc (.cells #[.string k, .slice A L C] 87)).cell? ⟨w.heap.size, 0, none⟩ = some (.string k) ∧ (w.alloc (.cells #[.string k, .slice A L C] 87)).cell? ⟨w.heap.size, 1, none⟩ = some (.slice A L C) := ⟨held_cell (h.touch0 (Tch.alloc _ _ _)).p_ rfl, held_cell (heap_alloc_new w _) rfl, held_cell (heap_alloc_new w _) rfl⟩
  have hNext : ∀ w2 bv pv, Fil w2 ⟨fl[i].g, bv, pv, extF fl[i].m l⟩ → Tch (FootF fl[i]) (w.alloc (.cells #[.string k, .slice A L C] 87)).drew w2 → (∀ k', bv.ownBlock = some k' → fl[i].bv.ownBlock = some k' ∨ (w.alloc (.cells #[.string k, .slice A L C] 87)).drew.heap.size ≤ k') → (∀ k', pv.ownBlock = some k' → fl[i].pv.ownBlock = some k' ∨ (w.alloc (.cells #[.string k, .slice A L C] 87)).drew.heap.size ≤ k') → Hid (Done w T c q p (actMore k l M) w2) ∧ (w2.cell? ⟨p, 5, none⟩ = some (.map (some n)) ∧ w2.cell? ⟨w.heap.size, 0, none⟩ = some (.string k) ∧ w2.cell? ⟨w.heap.size, 1, none⟩ = some (.slice A L C)) := fun w2 bv pv f2 t2 hbv hpv => by
    have hwf : (extF fl[i].m l).s + (extF fl[i].m l).ps.sum = (extF fl[i].m l).b.length ∧ (extF fl[i].m l).b.length ≤ 1048576 ∧ ∀ n ∈ (extF fl[i].m l).ps, 0 < n := by
      unfold extF
      split
      · exact hw
      · rename_i hl0
        refine ⟨?_, by simp; omega, fun n hn => ?_⟩
        · simp only [List.sum_append, List.length_append, List.sum_cons, List.sum_nil]
          omega
        · rcases List.mem_append.1 hn with hn | hn
          · exact hw.2.2 n hn
          · rw [List.mem_singleton.1 hn]; omega
    have P := h1.setF (fun j hj => hT j (by have := ta.size; omega)) hil' f2 t2 (fun j hj _ => hj) rfl hbv hpv hwf
    have e : actMore k l M = Go.Icz.setF M i (extF fl[i].m l) := by unfold actMore; rw [hi, hfm]
    have hgl := fun j hj => (h.fls.each _ (List.getElem_mem hil')).lt (k := j) hj
    have hcl := fun j => t2.cell (b := w.heap.size) (i := j) (by show w.heap.size < (w.alloc _).heap.size; rw [World.size_alloc]; omega) (fun e => by have := hgl _ e; omega)
    exact ⟨hid ⟨⟨_, _, _, _, by rw [e]; exact P⟩, (ta.mono (fun _ h => h.elim)).trans (t2.mono (fun j hj => h.ft _ (.inr (.inr (.inr (.inr (.inr ⟨_, List.getElem_mem hil', hj⟩)))))))⟩, held_cell P.p_ rfl, (hcl 0).trans hkk.2.1, (hcl 1).trans hkk.2.2⟩
  unfold ptO at hlk
  rw [hi] at hlk
  simp only at hlk
  rw [hgd] at hlk
  have as0 := as_extend_create
  have as1 := as_extend_extend
  clear h h1 hT ta hF hil hgd hfm hw hi hu hq hul hpl
  generalize fl[i].g = g at *
  go_enter Try.func48, Try.ntmps48
  go_wp2_with fail
  go_region_held3 (fun w' => w'.cell? ⟨p, 5, none⟩ = some (.map (some n)) ∧ w'.cell? ⟨w.heap.size, 0, none⟩ = some (.string k) ∧ w'.cell? ⟨w.heap.size, 1, none⟩ = some (.slice A L C)) (exact hkk) (first | (go_at_call 59; refine hS.mono ?_; rintro e2 w2 ⟨rfl, bv, pv, f2, t2, hbv, hpv⟩; obtain ⟨HD, hkk⟩ := hNext w2 bv pv f2 t2 hbv hpv; clear hS hNext))
  go_end0
  exact ⟨rfl, HD.out⟩
theorem do_rename (h : Pl w T c q p n s cv fl M) (hT : ∀ k, w.heap.size ≤ k → T k) (a b : ByteArray) (ha : a.size ≤ 64) (hb' : b.size ≤ 64) (hb : c + 1 ≤ 1048576) :
    Calls Try.prog 48 #[.pointer (some ⟨p, 0, none⟩), .iface 89 (.agg #[.string a, .string b])] w fun e w' => e = .returned (.tuple #[]) ∧ Done w T (c + 1) q p (actRename a b M) w' := by
  have ta0 : Tch (fun _ => False) w (w.alloc (.cells #[.string a, .string b] 89)) := Tch.alloc _ _ _
  have ta : Tch (fun _ => False) w (w.alloc (.cells #[.string a, .string b] 89)).drew := ta0.trans (Tch.drew _ _)
  have as0 := as_rename_create
  have as1 := as_rename_extend
  have as2 := as_rename_rename
  by_cases hab : a = b
  · have HD : Hid (Done w T (c + 1) q p (actRename a b M) (w.alloc (.cells #[.string a, .string b] 89))) := hid ⟨⟨_, _, _, _, by unfold actRename; rw [if_pos hab]; exact (h.touch0 ta0).up (by omega) hb⟩, ta0.mono (fun _ h => h.elim)⟩
    subst hab
    clear h ta ta0 hT
    go_enter Try.func48, Try.ntmps48
    go_wp2
    go_end0
    exact ⟨rfl, HD.out⟩
  · have hd := str_ne hab
    have h1 := h.touch0 ta
    have hsA : (w.alloc (.cells #[.string a, .string b] 89)).drew.heap.size = w.heap.size + 1 := World.size_alloc _ _
    have hkk : (w.alloc (.cells #[.string a, .string b] 89)).cell? ⟨w.heap.size, 0, none⟩ = some (.string a) ∧ (w.alloc (.cells #[.string a, .string b] 89)).cell? ⟨w.heap.size, 1, none⟩ = some (.string b) := ⟨held_cell (heap_alloc_new w _) rfl, held_cell (heap_alloc_new w _) rfl⟩
    have hKeep : ∀ w1, Below (w.alloc (.cells #[.string a, .string b] 89)).drew.heap.size (w.alloc (.cells #[.string a, .string b] 89)).drew w1 → w1.cell? ⟨w.heap.size, 0, none⟩ = some (.string a) ∧ w1.cell? ⟨w.heap.size, 1, none⟩ = some (.string b) := fun w1 b1 =>
      ⟨(b1.cell (p := ⟨w.heap.size, 0, none⟩) (by rw [hsA]; exact Nat.lt_succ_self _)).trans hkk.1, (b1.cell (p := ⟨w.heap.size, 1, none⟩) (by rw [hsA]; exact Nat.lt_succ_self _)).trans hkk.2⟩
    have bb : Below (w.alloc (.cells #[.string a, .string b] 89)).drew.heap.size (w.alloc (.cells #[.string a, .string b] 89)).drew (w.alloc (.cells #[.string a, .string b] 89)).drew := Below.refl _ _
    have hNext : ∀ w1, Below (w.alloc (.cells #[.string a, .string b] 89)).drew.heap.size (w.alloc (.cells #[.string a, .string b] 89)).drew w1 → Calls Try.prog 57 #[.pointer (some ⟨p, 0, none⟩), .iface 89 (.agg #[.string a, .string b])] w1 fun e w' => e = .returned (.tuple #[]) ∧ Hid (Done w T (c + 1) q p (actRename a b M) w') ∧ (w'.cell? ⟨w.heap.size, 0, none⟩ = some (.string a) ∧ w'.cell? ⟨w.heap.size, 1, none⟩ = some (.string b)) := fun w1 b1 => by
      have hlt := h.lt
      have hs1 := b1.size
      have hk1 := hKeep w1 b1
      have h2 := (h1.below b1).re (T' := fun j => T j ∧ j ≠ w.heap.size) (fun j hj => ⟨h.ft j hj, by have := hlt j hj; omega⟩)
      refine (pchange_is h2 (fun j hj => ⟨hT j (by rw [hsA] at hs1; omega), by rw [hsA] at hs1; omega⟩) (.rename a b) ⟨by simp [efi], ha, hb'⟩ hb).mono ?_
      rintro e w' ⟨rfl, cv', P, t⟩
      have hc := fun i => t.cell (b := w.heap.size) (i := i) (by rw [hsA] at hs1; omega) (fun hh => hh.2 rfl)
      have e : actRename a b M = changeM M (.rename a b) := by unfold actRename; rw [if_neg hab]
      refine ⟨rfl, hid ⟨⟨_, _, _, _, by rw [e]; exact P.re (fun j hj => (P.ft j hj).1)⟩, (ta.mono (fun _ h => h.elim)).trans ((below_tch b1).trans (t.mono (fun j hj => hj.1)))⟩, (hc 0).trans hk1.1, (hc 1).trans hk1.2⟩
    have ha2 : a.size ≤ 281474976710656 := by omega
    have hb2 : b.size ≤ 281474976710656 := by omega
    clear h h1 ta ta0 hT hb hab ha hb' hsA
    go_enter Try.func48, Try.ntmps48
    go_wp2_with fail
    go_region_held3 (fun w' => w'.cell? ⟨w.heap.size, 0, none⟩ = some (.string a) ∧ w'.cell? ⟨w.heap.size, 1, none⟩ = some (.string b)) (exact hkk) (first
      | (go_at_call 58; refine (sClone_is _ (by assumption) _).mono ?_; rintro e1 w1 ⟨rfl, b1⟩; have bb := bb.trans (b1.mono bb.size); have hkk := hKeep _ bb)
      | (go_at_call 57; refine (hNext _ bb).mono ?_; rintro e2 w2 ⟨rfl, D2, hkk⟩; clear hNext hKeep))
    all_goals (go_end0; exact ⟨rfl, D2.out⟩)
end Go.Proofs.Ytjpneohachkheaa
