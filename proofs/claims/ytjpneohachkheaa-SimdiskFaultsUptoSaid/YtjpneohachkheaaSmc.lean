/-
  A disk behind a crash. Conditions: those that each theorem names.
-/
import Derived.Test.YtjpneohachkheaaSmb
namespace Go.Icz
open Go.RowKit Go.Maps Go.ChangeMaps Go.MapKept
theorem cgo_facts : ∀ (ps : List Nat) (a e : Nat) (b : List Nat) (k : List Bool), e ≤ a → a + ps.sum = b.length → (cgo ps a e b k).1.length = b.length ∧ (cgo ps a e b k).2.1 ≤ b.length
  | [], a, e, b, k, h1, h2 => ⟨rfl, by simp at h2; show e ≤ _; omega⟩
  | n :: ps, a, e, b, k, h1, h2 => by
    rw [List.sum_cons] at h2
    rw [cgo_step]
    split
    · exact cgo_facts ps (a + n) (a + n) b k.tail (Nat.le_refl _) (by omega)
    · have hz : (zero b a (a + n)).length = b.length := zero_len (by omega) (by omega)
      have := cgo_facts ps (a + n) e (zero b a (a + n)) k.tail (by omega) (by rw [hz]; omega)
      rw [hz] at this
      exact this
theorem fcr_len {f : FM} (k : List Bool) (h : f.s + f.ps.sum = f.b.length) : (fcr f k).1.b.length = (fcr f k).1.s ∧ (fcr f k).1.s ≤ f.b.length ∧ (fcr f k).1.ps = [] := by
  obtain ⟨h1, h2⟩ := cgo_facts f.ps f.s f.s f.b k (Nat.le_refl _) h
  unfold fcr
  refine ⟨?_, h2, rfl⟩
  simp only [List.length_take]
  omega
def FwOk (f : FM) : Prop := f.s + f.ps.sum = f.b.length ∧ f.b.length ≤ 1048576 ∧ ∀ n ∈ f.ps, 0 < n
theorem fcr_wf {f : FM} (k : List Bool) (h : FwOk f) : FwOk (fcr f k).1 := by
  obtain ⟨h1, h2, h3⟩ := fcr_len k h.1
  have := h.2.1
  refine ⟨by rw [h3, h1]; rfl, by omega, by rw [h3]; simp⟩
theorem chgo_step (x : Ef) (r : List Ef) (N : NM) (k : List Bool) : chgo (x :: r) N k = chgo r (if k.headD false then nchange N x else N) k.tail := rfl
theorem fgo_step (i : Nat) (r : List Nat) (fs : List FM) (k : List Bool) : fgo (i :: r) fs k = fgo r (fs.set i (fcr (fileAt fs i) k).1) (fcr (fileAt fs i) k).2 := rfl
/-- One file turned, and what is no file's. -/
theorem Fls.set2 {S : Nat → Prop} {w w' : World} {fl : List FV} (h : Fls w fl) {i : Nat} (hi : i < fl.length) {x' : FV} (hx : Fil w' x') (t : Tch S w w') (hS : ∀ j, S j → j < w.heap.size → FootF fl[i] j ∨ ∀ y ∈ fl, ¬ FootF y j) (hg : x'.g = fl[i].g)
    (hb : ∀ k, x'.bv.ownBlock = some k → fl[i].bv.ownBlock = some k ∨ w.heap.size ≤ k) (hp : ∀ k, x'.pv.ownBlock = some k → fl[i].pv.ownBlock = some k ∨ w.heap.size ≤ k) : Fls w' (fl.set i x') := by
  have old : ∀ j (hj : j < fl.length), j ≠ i → Fil w' fl[j] := fun j hj hne => by
    refine (h.each _ (List.getElem_mem hj)).touch t (fun k hk hf => ?_)
    have hlt := (h.each _ (List.getElem_mem hj)).lt hf
    rcases hS k hk hlt with hh | hh
    · exact h.apart hi hj (Ne.symm hne) k hh hf
    · exact hh _ (List.getElem_mem hj) hf
  have blt : ∀ j (hj : j < fl.length) k, (fl[j].bv.ownBlock = some k ∨ fl[j].pv.ownBlock = some k) → k < w.heap.size := fun j hj k hk => (h.each _ (List.getElem_mem hj)).lt (.inr hk)
  refine ⟨fun x hx' => ?_, ?_, ?_, ?_⟩
  · obtain ⟨j, hj, rfl⟩ := List.getElem_of_mem hx'
    rw [List.length_set] at hj
    rw [List.getElem_set]
    split
    · exact hx
    · rename_i hne
      exact old j hj (Ne.symm hne)
  · refine List.pairwise_iff_getElem.2 fun a b ha hb' hab => ?_
    rw [List.length_set] at ha hb'
    have := List.pairwise_iff_getElem.1 h.gs a b ha hb' hab
    rw [List.getElem_set, List.getElem_set]
    by_cases ea : i = a
    · subst ea
      rw [if_pos rfl, if_neg (by omega), hg]
      exact this
    · rw [if_neg ea]
      by_cases eb : i = b
      · subst eb
        rw [if_pos rfl, hg]
        exact this
      · rw [if_neg eb]
        exact this
  · refine List.pairwise_iff_getElem.2 fun a b ha hb' hab => ?_
    rw [List.length_set] at ha hb'
    have := List.pairwise_iff_getElem.1 h.bs a b ha hb' hab
    rw [List.getElem_set, List.getElem_set]
    by_cases ea : i = a
    · subst ea
      rw [if_pos rfl, if_neg (by omega)]
      intro k hk hk'
      rcases hb k hk with hk | hk
      · exact this k hk hk'
      · have := blt b hb' k (.inl hk')
        omega
    · rw [if_neg ea]
      by_cases eb : i = b
      · subst eb
        rw [if_pos rfl]
        intro k hk hk'
        rcases hb k hk' with hk' | hk'
        · exact this k hk hk'
        · have := blt a ha k (.inl hk)
          omega
      · rw [if_neg eb]
        exact this
  · refine List.pairwise_iff_getElem.2 fun a b ha hb' hab => ?_
    rw [List.length_set] at ha hb'
    have := List.pairwise_iff_getElem.1 h.ps a b ha hb' hab
    rw [List.getElem_set, List.getElem_set]
    by_cases ea : i = a
    · subst ea
      rw [if_pos rfl, if_neg (by omega)]
      intro k hk hk'
      rcases hp k hk with hk | hk
      · exact this k hk hk'
      · have := blt b hb' k (.inr hk')
        omega
    · rw [if_neg ea]
      by_cases eb : i = b
      · subst eb
        rw [if_pos rfl]
        intro k hk hk'
        rcases hp k hk' with hk' | hk'
        · exact this k hk hk'
        · have := blt a ha k (.inr hk)
          omega
      · rw [if_neg eb]
        exact this
end Go.Icz
namespace Go.Proofs.Ytjpneohachkheaa
open Go.RowKit Go.Icz Go.Maps Go.ChangeMaps Go.MapKept
set_option maxRecDepth 100000
set_option maxHeartbeats 2000000
variable {w w' : World} {T T' : Nat → Prop} {c c' q p n s : Nat} {cv : Value} {fl : List FV} {M M' : DM}
/-- One file turned. -/
theorem Pl.setF2 {S : Nat → Prop} (h : Pl w T c q p n s cv fl M) (hT : ∀ k, w.heap.size ≤ k → T k) {i : Nat} (hi : i < fl.length) {x' : FV} (hx : Fil w' x') (t : Tch S w w') (hS : ∀ j, S j → j < w.heap.size → FootF fl[i] j ∨ ¬ Foot q p n s cv fl j) (hg : x'.g = fl[i].g)
    (hb : ∀ k, x'.bv.ownBlock = some k → fl[i].bv.ownBlock = some k ∨ w.heap.size ≤ k) (hp : ∀ k, x'.pv.ownBlock = some k → fl[i].pv.ownBlock = some k ∨ w.heap.size ≤ k) (hf : x'.m.s + x'.m.ps.sum = x'.m.b.length ∧ x'.m.b.length ≤ 1048576 ∧ ∀ n ∈ x'.m.ps, 0 < n) :
    Pl w' T c q p n s cv (fl.set i x') (Go.Icz.setF M i x'.m) := by
  have hmem := List.getElem_mem hi
  have hFT : ∀ k, FootF fl[i] k → T k := fun k hk => h.ft _ (.inr (.inr (.inr (.inr (.inr ⟨_, hmem, hk⟩)))))
  refine h.files t (fun j hj hlt => by
      rcases hS j hj hlt with hh | hh
      · exact h.fne hmem hh
      · exact ⟨fun e => hh (.inl e), fun e => hh (.inr (.inl e)), fun e => hh (.inr (.inr (.inl e))), fun e => hh (.inr (.inr (.inr (.inl e)))), fun e => hh (.inr (.inr (.inr (.inr (.inl e)))))⟩) (h.fls.set2 hi hx t (fun j hj hlt => by
      rcases hS j hj hlt with hh | hh
      · exact .inl hh
      · exact .inr (fun y hy hf => hh (.inr (.inr (.inr (.inr (.inr ⟨y, hy, hf⟩))))))) hg hb hp) ?_ ?_ ⟨rfl, rfl, rfl, rfl, rfl, rfl, rfl, rfl⟩ hT (fun x hx k hk => ?_) (set_wf h.wf (by rw [← h.len]; exact hi) hf)
  · unfold bl
    rw [List.map_set, hg]
    apply List.ext_getElem
    · simp
    · intro j h1 h2
      rw [List.getElem_set]
      split
      · rename_i e; subst e; simp
      · rfl
  · show _ = M.fs.set i x'.m
    rw [List.map_set, h.fm]
  · rcases List.mem_or_eq_of_mem_set hx with hx | rfl
    · exact h.ft _ (.inr (.inr (.inr (.inr (.inr ⟨x, hx, hk⟩)))))
    · rcases hk with hk | hk | hk
      · rw [hk, hg]; exact hFT _ (.inl rfl)
      · rcases hb k hk with hk | hk
        · exact hFT _ (.inr (.inl hk))
        · exact hT k hk
      · rcases hp k hk with hk | hk
        · exact hFT _ (.inr (.inr hk))
        · exact hT k hk
theorem inTurn_is (A : Option Addr) (L C : Nat) (w : World) : Calls Try.prog 31 #[.slice A L C] w fun e w' => e = .returned (.func (.func 41) #[] #[.pointer (some ⟨w.heap.size, 0, none⟩)]) ∧ w' = w.alloc (.cells #[.slice A L C] 23) := by
  go_enter Try.func31, Try.ntmps31
  go_wp2
  go_ret
  exact ⟨rfl, rfl⟩
theorem Keep.own {S : Nat → Prop} {x : Nat} {k : List Bool} (h : Keep S w x k) {S' : Nat → Prop} (t : Tch S' w w') (hx : ¬ S' x) (hS : ∀ v, w.heap[x]? = some (.cells #[v] 23 (0, 0)) → ∀ b, v.ownBlock = some b → ¬ S' b) : Keep S w' x k := by
  obtain ⟨v, h1, h2, h3, h4⟩ := h
  exact ⟨v, t.row h1 hx, rd_touch h2 t (fun _ b hb => hS v h1 b hb), h3, h4⟩
/-- A round of the changes. -/
structure C1 (S T : Nat → Prop) (w0 wr : World) (c q p n s : Nat) (cv : Value) (fl : List FV) (M : DM) (kx : Nat) (keep : List Bool) (j : Nat) : Prop where
  ex : ∃ N k', Pl wr T (c + c) q p n s cv fl { M with sure := N } ∧ Keep S wr kx k' ∧ chgo (M.ch.drop j) N k' = chgo M.ch M.sure keep ∧ N.length ≤ M.sure.length + j
  to : Tch (fun y => S y ∨ y = kx) w0 wr
theorem wf_sure (h : WfM M c') {x : Ef} (hx : x ∈ M.ch) (hl : (nchange M.sure x).length + M.ch.length ≤ c') : WfM { M with sure := nchange M.sure x } c' := by
  refine ⟨h.nn, nodup_change h.sn x, h.ni, fun e he => ?_, h.ci, h.fw, h.ln, hl, h.lf, h.hc, h.qu, h.fu, h.fa, h.nz, h.cz, keys_change h.sz (h.cz x hx)⟩
  rcases mem_change he with ⟨e', he', hh⟩ | hh
  · rw [← hh]; exact h.si e' he'
  · exact h.ci x hx _ hh
def idxB (N : NM) (sl : List ByteArray) : List Nat := sl.map fun k => (nlook N k).getD 0
theorem idxB_eq (N : NM) (ss : List (List UInt8)) : idx N ss = idxB N (ss.map kb) := by
  unfold idx idxB
  rw [List.map_map]
  rfl
/-- A round of the files. -/
structure C2 (S T : Nat → Prop) (w0 wr : World) (c q p n s : Nat) (cv : Value) (M : DM) (N : NM) (kx : Nat) (keep : List Bool) (sl : List ByteArray) (vs : Value) (j : Nat) : Prop where
  ex : ∃ fs fl k', Pl wr T (c + c) q p n s cv fl { M with sure := N, fs := fs } ∧ (∀ x ∈ fl, ∀ y, FootF x y → S y) ∧ Keep S wr kx k' ∧ fgo ((idxB N sl).drop j) fs k' = fgo (idxB N sl) M.fs keep ∧ fs.length = M.fs.length
  row : KS.Own wr 0 vs sl
  to : Tch (fun y => S y ∨ y = kx) w0 wr
theorem wf_crash {N : NM} {fs : List FM} (h0 : WfM M c) (h : WfM { M with sure := N, fs := fs } c') (hN : N.length ≤ c) (hf : fs.length = M.fs.length) : WfM { off := false, fuse := -1, fault := 0, done := false, quota := M.quota, fs := fs, names := N, sure := N, ch := [] } c :=
  ⟨h.sn, h.sn, h.si, h.si, fun x hx => absurd hx (by simp), h.fw, hN, by show N.length + 0 ≤ c; omega, by show fs.length ≤ c; rw [hf]; exact h0.lf, h0.hc, h0.qu, ⟨by show (-1 : Int) ≤ -1; decide, by show (-1 : Int) ≤ 9223372036854775807; decide⟩, ⟨by show (0 : Int) ≤ 0; decide, by show (0 : Int) ≤ 9223372036854775807; decide⟩, h.sz, fun x hx => absurd hx (by simp), h.sz⟩
theorem rising_mem {N : NM} {k : ByteArray} (h : k ∈ (rising N).map kb) : (nlook N k).isSome = true := by
  rw [look_isSome]
  obtain ⟨l, hl, rfl⟩ := List.mem_map.1 h
  unfold rising at hl
  rw [List.mem_mergeSort] at hl
  obtain ⟨e, he, rfl⟩ := List.mem_map.1 hl
  exact List.mem_map.2 ⟨e, he, by unfold kb; simp⟩
theorem Crash_is (h : Pl w T c q p n s cv fl M) (hT : ∀ k, w.heap.size ≤ k → T k) (hb : c + c ≤ 1048576) {A : Option Addr} {L C : Nat} {keep : List Bool} (hk : KBo.Rd w (.slice A L C) keep) (hfar : 0 < keep.length → ∀ b, (Value.slice A L C).ownBlock = some b → ¬ Foot q p n s cv fl b) :
    Calls Try.prog 10 #[.pointer (some ⟨q, 0, none⟩), .slice A L C] w fun e w' => e = .returned (.tuple #[]) ∧ Done w T c q p (crashM M keep) w' := by
  obtain ⟨S, hS⟩ : ∃ S : Nat → Prop, S = Foot q p n s cv fl := ⟨_, rfl⟩
  have hST : ∀ k, S k → T k := by rw [hS]; exact h.ft
  have hSlt : ∀ k, S k → k < w.heap.size := by rw [hS]; exact h.lt
  have hM := made_yes h.q_
  have c0 : w.cell? ⟨q, 0, none⟩ = some (.pointer (some ⟨p, 0, none⟩)) := held_cell h.q_ rfl
  have hI := inTurn_is A L C w.drew
  have h1 : Pl w.drew T c q p n s cv fl M := h.touch0 (Tch.drew _ _)
  have ta : Tch (fun _ => False) w.drew (w.drew.alloc (.cells #[.slice A L C] 23)) := Tch.alloc _ _ _
  have h2 := h1.touch0 ta
  obtain ⟨kx, hkw⟩ : ∃ kx, kx = w.heap.size := ⟨_, rfl⟩
  have hkx : kx = w.drew.heap.size := hkw
  have hKeep : Keep S (w.drew.alloc (.cells #[.slice A L C] 23)) kx keep := ⟨.slice A L C, by rw [hkx]; exact heap_alloc_new w.drew _, (rd_touch hk (Tch.drew (fun _ => False) _) (fun _ _ _ h => h)).alloc _, fun h0 b hb' => by rw [hS]; exact hfar h0 b hb', fun hs => by have := hSlt _ hs; omega⟩
  have hkS : ¬ S kx := fun hs => by have := hSlt _ hs; omega
  have S1 : Hid (C1 S T w (w.drew.alloc (.cells #[.slice A L C] 23)) c q p n s cv fl M kx keep 0) := hid ⟨⟨M.sure, keep, h2.up (by omega) hb, hKeep, rfl, Nat.le_refl _⟩, ((Tch.drew _ _).trans ta).mono (fun _ h => h.elim)⟩
  obtain ⟨A2, C2', hcv, _⟩ := h.ch.rd.form
  have hlen : (M.ch.map (evOf (bl fl))).length = M.ch.length := List.length_map _
  rw [hlen] at hcv
  have c7 : (w.drew.alloc (.cells #[.slice A L C] 23)).cell? ⟨p, 7, none⟩ = some (.slice A2 M.ch.length C2') := by rw [← hcv]; exact held_cell h2.p_ rfl
  have hcq : (w.drew.alloc (.cells #[.slice A L C] 23)).cell? ⟨q, 0, none⟩ = some (.pointer (some ⟨p, 0, none⟩)) := held_cell h2.q_ rfl
  have HCV := hid hcv
  have HWF := hid h.wf
  have hcb : M.ch.length ≤ 1048576 := by have := h.wf.lc; have := h.wf.hc; omega
  have hkk := c0
  have hde : w.drew.alloc (.cells #[.slice A L C] 23) = (w.alloc (.cells #[.slice A L C] 23)).drew := rfl
  subst hkw
  rw [hde] at S1 c7 hcq
  clear h h1 h2 ta hk hfar hKeep hlen hcv hkx hde
  go_enter Try.func10, Try.ntmps10
  go_wp2_with (go_at_call 30; refine hM.mono ?_; rintro e1 w1 ⟨rfl, rfl⟩; clear hM)
  go_region_held3 (fun w' => w'.cell? ⟨q, 0, none⟩ = some (.pointer (some ⟨p, 0, none⟩))) (exact hkk) (first | (go_at_call 31; refine hI.mono ?_; rintro e2 w2 ⟨rfl, rfl⟩; clear hI; have hkk := hcq))
  go_wp2
  go_loopw [24] (fun iv wr => ∃ j : Nat, iv = .int .i64 j ∧ j ≤ M.ch.length ∧ Hid (C1 S T w1 wr c q p n s cv fl M w1.heap.size keep j)) (fun iv _ => M.ch.length - (intOf iv).toNat)
  case atStart => exact ⟨0, rfl, by omega, S1⟩
  case round =>
    obtain ⟨j, rfl, hj, HC⟩ := hrel
    obtain ⟨N, k', P, K, hch, hN⟩ := HC.out.ex
    have HTo := hid HC.out.to
    have hsz := HC.out.to.size
    have hkF : ¬ Foot q p n s cv fl w1.heap.size := by rw [← hS]; exact hkS
    by_cases hLt : j < M.ch.length
    · have hil : (j : Int) < (M.ch.length : Int) := by omega
      have HL := hid hLt
      have hdp : M.ch.drop j = M.ch[j] :: M.ch.drop (j + 1) := List.drop_eq_getElem_cons hLt
      rw [hdp, chgo_step] at hch
      have hrd : KE.Rd wr (.slice A2 M.ch.length C2') (M.ch.map (evOf (bl fl))) := by rw [← HCV.out]; exact P.ch.rd
      obtain ⟨b2, off2, hA2, hlt2, hc2⟩ := hrd.at (j := j) (by rw [List.length_map]; exact hLt)
      subst hA2
      have d0 : wr.cell? ⟨b2, off2 + j, none⟩ = some (evV (evOf (bl fl) M.ch[j])) := by
        have := hc2 0 (evV (evOf (bl fl) M.ch[j])) (by decide) (by rw [List.getElem_map]; rfl)
        rwa [Nat.add_zero, show KE.z = 1 from rfl, Nat.mul_one] at this
      have hxm : M.ch[j] ∈ M.ch := List.getElem_mem hLt
      have hK := kept_is K
      have hch2 := HWF.out.lc
      obtain ⟨t', v', hev⟩ : ∃ t' v', evV (evOf (bl fl) M.ch[j]) = .iface t' v' := by cases M.ch[j] <;> exact ⟨_, _, rfl⟩
      rw [hev] at d0
      have tk1 := True.intro
      generalize hkb : k'.headD false = kb at *
      cases kb
      · rw [if_neg (by simp)] at hch
        have hNext : ∀ w2, Keep S w2 w1.heap.size k'.tail → Tch (· = w1.heap.size) wr w2 → Hid (C1 S T w1 w2 c q p n s cv fl M w1.heap.size keep (j + 1)) := fun w2 K2 t2 =>
          hid ⟨⟨N, k'.tail, P.touch t2 (fun y hy hf => hkF (hy ▸ hf)), K2, hch, by omega⟩, HTo.out.trans (t2.mono (fun y hy => .inr hy))⟩
        clear HC P K hch hN hdp hrd hc2 hS
        go_wp2_with (go_at_call 41; clear tk1; refine hK.mono ?_; rintro e2 w2 ⟨rfl, K2, t2⟩; have HN := hNext w2 K2 t2; clear hNext hK)
        go_roundw
        case rel => exact ⟨j + 1, by go_num, HL.out, HN⟩
        case measure => have := HL.out; simp [intOf]; omega
      · rw [if_pos rfl] at hch
        have hNext : ∀ w2, Keep S w2 w1.heap.size k'.tail → Tch (· = w1.heap.size) wr w2 → w2.cell? ⟨p, 6, none⟩ = some (.map (some s)) ∧ Calls Try.prog 32 #[.map (some s), .iface t' v'] w2 fun e w' => e = .returned (.tuple #[]) ∧ Hid (C1 S T w1 w' c q p n s cv fl M w1.heap.size keep (j + 1)) := fun w2 K2 t2 => by
          have P2 := P.touch t2 (fun y hy hf => hkF (hy ▸ hf))
          rw [← hev]
          have hlN := len_change N M.ch[j]
          have hwfN := P2.wf
          refine ⟨held_cell P2.p_ rfl, (nchange_is P2.sm hwfN.sn (by have := hwfN.hc; have := hwfN.lc; have h3 : N.length + M.ch.length ≤ c + c := hwfN.lc; show N.length ≤ 1048576; omega) M.ch[j] (HWF.out.cz _ hxm)).mono ?_⟩
          rintro e w3 ⟨rfl, m3, t3⟩
          obtain ⟨sq, sp, sc, sf⟩ := P2.sne
          have hP3 : Pl w3 T (c + c) q p n s cv fl { M with sure := nchange N M.ch[j] } := by
            refine P2.plate (M' := { M with sure := nchange N M.ch[j] }) t3 (fun y hy => hy ▸ ⟨sq, sf⟩) ?_ (P2.nm.touch t3 (fun e => P2.ns e)) m3 P2.ns (P2.ch.touch t3 (fun y hy hk => sc (by rw [← hy]; exact hk))) ⟨P2.ft _ (.inr (.inr (.inl rfl))), P2.ft _ (.inr (.inr (.inr (.inl rfl)))), fun k hk => P2.ft _ (.inr (.inr (.inr (.inr (.inl hk)))))⟩ rfl ?_
            · exact t3.row P2.p_ (fun e => sp e.symm)
            · refine wf_sure (M := { M with sure := N }) hwfN hxm ?_
              show (nchange N M.ch[j]).length + M.ch.length ≤ c + c
              omega
          exact ⟨rfl, hid ⟨⟨_, k'.tail, hP3, K2.touch (t3.mono (fun y hy => by rw [hS, hy]; exact .inr (.inr (.inr (.inl rfl))))), hch, by omega⟩, HTo.out.trans ((t2.mono (fun y hy => .inr hy)).trans (t3.mono (fun y hy => .inl (by rw [hS, hy]; exact .inr (.inr (.inr (.inl rfl)))))))⟩⟩
        clear HC P K hch hN hdp hrd hc2 hS
        have tk2 := True.intro
        go_wp2_with (first
          | (go_at_call 41; clear tk1; refine hK.mono ?_; rintro e2 w2 ⟨rfl, K2, t2⟩; obtain ⟨c6, hNC⟩ := hNext w2 K2 t2; clear hNext hK)
          | (go_at_call 32; clear tk2; refine hNC.mono ?_; rintro e3 w3 ⟨rfl, HN⟩; clear hNC))
        go_roundw
        case rel => exact ⟨j + 1, by go_num, HL.out, HN⟩
        case measure => have := HL.out; simp [intOf]; omega
    · have hil : ¬ (j : Int) < (M.ch.length : Int) := by omega
      have hdp : M.ch.drop j = [] := List.drop_eq_nil_of_le (by omega)
      rw [hdp] at hch
      have hch : (N, k') = chgo M.ch M.sure keep := hch
      have hcN : N.length ≤ c := by have := HWF.out.lc; omega
      have c6 : wr.cell? ⟨p, 6, none⟩ = some (.map (some s)) := held_cell P.p_ rfl
      have hRi := rising_is P.sm P.wf.sn (by have := HWF.out.hc; show N.length ≤ 1048576; omega)
      obtain ⟨sl, hsl⟩ : ∃ sl, sl = (rising N).map kb := ⟨_, rfl⟩
      have hRi2 : Calls Try.prog 33 #[.map (some s)] wr fun e w' => ∃ A3 C3, e = .returned (.slice A3 sl.length C3) ∧ Hid (C2 S T w1 w' c q p n s cv M N w1.heap.size k' sl (.slice A3 sl.length C3) 0) := by
        refine hRi.mono ?_
        rintro e w2 ⟨v, rfl, o2, b2⟩
        have o2 : KS.Own w2 wr.heap.size v ((rising N).map kb) := o2
        rw [← hsl] at o2
        obtain ⟨A3, C3, rfl, _⟩ := id o2.rd.form
        have P2 := P.below b2
        refine ⟨A3, C3, rfl, hid ⟨⟨M.fs, fl, k', P2, fun x hx y hy => by rw [hS]; exact .inr (.inr (.inr (.inr (.inr ⟨x, hx, hy⟩)))), K.touch (below_tch b2), rfl, rfl⟩, o2.mono (Nat.zero_le _), HTo.out.trans (below_tch b2)⟩⟩
      have hsm : ∀ k ∈ sl, (nlook N k).isSome = true := fun k hk => rising_mem (by rw [← hsl]; exact hk)
      have hslb : sl.length ≤ 1048576 := by rw [hsl, List.length_map]; unfold rising; rw [List.length_mergeSort, List.length_map]; omega
      have HCH := hid hch
      have HSL := hid hsl
      clear HC P K hch hN hdp hRi hsl c0 c7 hcq S1
      go_wp2_with (go_at_call 33; refine hRi2.mono ?_; rintro e2 w2 ⟨A3, C3, rfl, HC2⟩; clear hRi2)
      go_loopw [43] (fun iv wr => ∃ j : Nat, iv = .int .i64 j ∧ j ≤ sl.length ∧ Hid (C2 S T w1 wr c q p n s cv M N w1.heap.size k' sl (.slice A3 sl.length C3) j)) (fun iv _ => sl.length - (intOf iv).toNat)
      case atStart => exact ⟨0, rfl, by omega, HC2⟩
      case round =>
        obtain ⟨i, rfl, hi, HE⟩ := hrel
        obtain ⟨fs, fl2, k2, P, hfS, K, hfg, hfl⟩ := HE.out.ex
        have HTo2 := hid HE.out.to
        have hsz2 := HE.out.to.size
        by_cases hLt2 : i < sl.length
        · have hil2 : (i : Int) < (sl.length : Int) := by omega
          obtain ⟨nm, hnm⟩ : ∃ nm, sl[i]'hLt2 = nm := ⟨_, rfl⟩
          have hnmm : nm ∈ sl := by rw [← hnm]; exact List.getElem_mem hLt2
          have hdp0 : sl.drop i = nm :: sl.drop (i + 1) := by rw [← hnm]; exact List.drop_eq_getElem_cons hLt2
          have hro := HE.out.row.rd
          obtain ⟨b3, off3, hA3, hlt3, hc3⟩ := hro.at hLt2
          rw [hnm] at hc3
          have HL2 := hid hLt2
          subst hA3
          have d1 : wr.cell? ⟨b3, off3 + i, none⟩ = some (.string nm) := by
            have := hc3 0 (.string nm) (by decide) rfl
            rwa [Nat.add_zero, show KS.z = 1 from rfl, Nat.mul_one] at this
          clear hnm hc3
          obtain ⟨fi, hfi⟩ := Option.isSome_iff_exists.1 (hsm _ hnmm)
          have hil3 : fi < fs.length := P.wf.si _ (look_mem hfi)
          obtain ⟨hil', hgd, hfm, hF⟩ := P.at_ (i := fi) hil3
          have hkz : nm.size ≤ 64 := P.wf.sz _ (look_mem hfi)
          have hlk : (Instr.lookup 66 (.map (some s)) (.string nm) false).run Try.prog wr = .ok (ptO (bl fl2) (nlook N nm)) wr := P.sm.look1 nm (by unfold maxLen; omega)
          have c63 : wr.cell? ⟨p, 6, none⟩ = some (.map (some s)) := held_cell P.p_ rfl
          have hwf : FwOk fl2[fi].m := P.wf.fw fl2[fi].m (by rw [hfm]; exact List.mem_of_getElem? (by rw [List.getElem?_eq_getElem hil3]; unfold fileAt; rw [List.getD_eq_getElem?_getD, List.getElem?_eq_getElem hil3]; rfl))
          have hpl : fl2[fi].m.ps.length ≤ fl2[fi].m.ps.sum := by
            have : ∀ l : List Nat, (∀ n ∈ l, 0 < n) → l.length ≤ l.sum := by
              intro l
              induction l with
              | nil => intro _; simp
              | cons a r ih =>
                intro hh
                have h1 := ih (fun n hn => hh n (List.mem_cons_of_mem _ hn))
                have h2 := hh a (List.mem_cons_self ..)
                rw [List.length_cons, List.sum_cons]
                omega
            exact this _ hwf.2.2
          have hmem := List.getElem_mem hil'
          have hFc := fcrash_is hF K hwf.1 hwf.2.2 (Nat.le_trans hwf.2.1 (by omega)) (by have h1 := hwf.1; have h2 := hwf.2.1; omega) (fun y hy => hfS _ hmem y hy)
          have hdp2 : (idxB N sl).drop i = fi :: (idxB N sl).drop (i + 1) := by
            unfold idxB
            rw [← List.map_drop, ← List.map_drop, hdp0, List.map_cons, hfi]
            rfl
          rw [hdp2, fgo_step] at hfg
          unfold ptO at hlk
          rw [hfi] at hlk
          simp only at hlk
          rw [hgd] at hlk
          have hNext : ∀ w2 bv, Fil w2 ⟨fl2[fi].g, bv, .slice none 0 0, (fcr fl2[fi].m k2).1⟩ → Keep S w2 w1.heap.size (fcr fl2[fi].m k2).2 → Tch (fun y => FootF fl2[fi] y ∨ y = w1.heap.size) wr w2 → bv.ownBlock = fl2[fi].bv.ownBlock → Hid (C2 S T w1 w2 c q p n s cv M N w1.heap.size k' sl (.slice (some ⟨b3, off3, none⟩) sl.length C3) (i + 1)) := fun w2 bv F2 K2 t2 hbv => by
            have hk0 : ¬ Foot q p n s cv fl2 w1.heap.size := by
              intro hf
              rcases hf with hf | hf | hf | hf | hf | ⟨x, hx, hf⟩
              · exact hkS (by rw [hS]; exact .inl hf)
              · exact hkS (by rw [hS]; exact .inr (.inl hf))
              · exact hkS (by rw [hS]; exact .inr (.inr (.inl hf)))
              · exact hkS (by rw [hS]; exact .inr (.inr (.inr (.inl hf))))
              · exact hkS (by rw [hS]; exact .inr (.inr (.inr (.inr (.inl hf)))))
              · exact hkS (hfS x hx _ hf)
            have P2 := P.setF2 (fun y hy => hT y (by omega)) hil' F2 t2 (fun y hy _ => by
              rcases hy with hy | hy
              · exact .inl hy
              · exact .inr (fun hf => hk0 (hy ▸ hf))) rfl (fun y hy => .inl (by rw [← hbv]; exact hy)) (fun y hy => by cases hy) (fcr_wf k2 hwf)
            refine hid ⟨⟨_, _, _, P2, fun x hx y hy => ?_, K2, ?_, by show (fs.set fi _).length = _; rw [List.length_set]; exact hfl⟩, ?_, HTo2.out.trans (t2.mono (fun y hy => hy.imp (fun h => hfS _ hmem y h) (fun h => h)))⟩
            · rcases List.mem_or_eq_of_mem_set hx with hx | rfl
              · exact hfS x hx y hy
              · rcases hy with hy | hy | hy
                · exact hfS _ hmem y (.inl hy)
                · exact hfS _ hmem y (.inr (.inl (by rw [← hbv]; exact hy)))
                · cases hy
            · rw [hfm]; exact hfg
            · refine HE.out.row.touch t2 (fun y hy hb => ?_)
              obtain ⟨cur, hc⟩ := HE.out.row.row hb
              rcases hy with hy | hy
              · obtain ⟨cur2, t, hc2, ht⟩ := hF.tags hy
                refine tag_ne hc hc2 ?_ rfl
                rcases ht with rfl | rfl | rfl <;> decide
              · obtain ⟨v, h1, _⟩ := K
                exact tag_ne hc h1 (by decide) hy
          have tk3 := True.intro
          clear HE P K hfg hro hF hwf hpl hdp2 hdp0 hnmm hfm hgd hil3 hfS hkz
          generalize fl2[fi].g = g at *
          go_wp2_with (go_at_call 34; clear tk3; refine hFc.mono ?_; rintro e3 w3 ⟨rfl, bv, F3, K3, t3, hbv⟩; have HN := hNext w3 bv F3 K3 t3 hbv; clear hNext hFc)
          go_roundw
          case rel => exact ⟨i + 1, by go_num, HL2.out, HN⟩
          case measure => have := HL2.out; simp [intOf]; omega
        · have hil2 : ¬ (i : Int) < (sl.length : Int) := by omega
          have hdp2 : (idxB N sl).drop i = [] := List.drop_eq_nil_of_le (by unfold idxB; rw [List.length_map]; omega)
          rw [hdp2] at hfg
          have hfg : fs = fgo (idxB N sl) M.fs k' := hfg
          have hcr : crashM M keep = { off := false, fuse := -1, fault := 0, done := false, quota := M.quota, fs := fs, names := N, sure := N, ch := [] } := by
            unfold crashM
            rw [← HCH.out]
            simp only
            rw [idxB_eq, ← HSL.out, ← hfg]
          have c63 : wr.cell? ⟨p, 6, none⟩ = some (.map (some s)) := held_cell P.p_ rfl
          have hMC := mpClone_is P.sm
          have hwfc := wf_crash HWF.out P.wf hcN hfl
          have hEnd : ∀ w2 w3, Mp w2 wr.heap.size N (bl fl2) → Below wr.heap.size wr w2 → Below w2.heap.size w2 w3 → w3.cell? ⟨p, 5, none⟩ = some (.map (some n)) ∧ w3.cell? ⟨p, 7, none⟩ = some cv ∧ w3.cell? ⟨p, 0, none⟩ = some (.int .i64 M.fault) ∧ w3.cell? ⟨p, 1, none⟩ = some (.bool M.done) ∧ w3.cell? ⟨p, 2, none⟩ = some (.bool M.off) ∧ w3.cell? ⟨p, 3, none⟩ = some (.int .i64 M.fuse) ∧ (∀ i, w3.frozen? ⟨p, i, none⟩ = false) ∧
              Hid (Done w1 T c q p (crashM M keep) ((((((w3.setCell ⟨p, 5, none⟩ (.map (some wr.heap.size))).setCell ⟨p, 7, none⟩ (.slice none 0 0)).setCell ⟨p, 0, none⟩ (.int .i64 0)).setCell ⟨p, 1, none⟩ (.bool false)).setCell ⟨p, 2, none⟩ (.bool false)).setCell ⟨p, 3, none⟩ (.int .i64 (-1)))) := fun w2 w3 m2 b2 b3 => by
            have P3 := (P.below b2).below b3
            have m3 := m2.touch (below_tch (S := fun _ => False) b3) (fun h => h)
            obtain ⟨pq, pn, ps, pc, pf⟩ := P3.pne
            have hwp : p < wr.heap.size := P.lt p (.inr (.inl rfl))
            have hws : s < wr.heap.size := P.lt s (.inr (.inr (.inr (.inl rfl))))
            have r6 := row_set (i := 3) (row_set (i := 2) (row_set (i := 1) (row_set (i := 0) (row_set (i := 7) (row_set (i := 5) P3.p_ (.map (some wr.heap.size))) (.slice none 0 0)) (.int .i64 0)) (.bool false)) (.bool false)) (.int .i64 (-1))
            have t6 : Tch (· = p) w3 ((((((w3.setCell ⟨p, 5, none⟩ (.map (some wr.heap.size))).setCell ⟨p, 7, none⟩ (.slice none 0 0)).setCell ⟨p, 0, none⟩ (.int .i64 0)).setCell ⟨p, 1, none⟩ (.bool false)).setCell ⟨p, 2, none⟩ (.bool false)).setCell ⟨p, 3, none⟩ (.int .i64 (-1))) :=
              (Tch.set (· = p) _ ⟨p, 5, none⟩ _ rfl).trans ((Tch.set (· = p) _ ⟨p, 7, none⟩ _ rfl).trans ((Tch.set (· = p) _ ⟨p, 0, none⟩ _ rfl).trans ((Tch.set (· = p) _ ⟨p, 1, none⟩ _ rfl).trans ((Tch.set (· = p) _ ⟨p, 2, none⟩ _ rfl).trans (Tch.set (· = p) _ ⟨p, 3, none⟩ _ rfl)))))
            refine ⟨held_cell P3.p_ rfl, held_cell P3.p_ rfl, held_cell P3.p_ rfl, held_cell P3.p_ rfl, held_cell P3.p_ rfl, held_cell P3.p_ rfl, fun i => held_frozen P3.p_, hid ?_⟩
            rw [hcr]
            refine ⟨⟨wr.heap.size, s, .slice none 0 0, fl2, P3.plate t6 (fun y hy => hy ▸ ⟨pq, pf⟩) ?_ (m3.touch t6 (fun e => Nat.ne_of_gt hwp e)) (P3.sm.touch t6 (fun e => ps e.symm)) (Nat.ne_of_gt hws) (Kd.Own.nil _ _) ⟨hT _ hsz2, P3.ft _ (.inr (.inr (.inr (.inl rfl)))), fun k hk => (by cases hk)⟩ rfl hwfc⟩, ?_⟩
            · rw [r6]; rfl
            · refine (HTo2.out.mono (fun y hy => ?_)).trans ((below_tch b2).trans ((below_tch b3).trans (t6.mono (fun y hy => P3.ft _ (.inr (.inl hy))))))
              rcases hy with hy | hy
              · exact hST y hy
              · exact hT _ (by omega)
          have tk4 := True.intro
          clear HE P K hfg hdp2 hcr hwfc hfS
          go_wp2_with (first
            | (go_at_call 35; clear tk4; refine hMC.mono ?_; rintro e3 w3 ⟨rfl, m3, b3⟩; clear hMC)
            | (go_at_call 36; refine (calm_is _).mono ?_; rintro e4 w4 ⟨rfl, b4⟩; obtain ⟨q5, q7, q0, q1, q2, q3, qf, HD⟩ := hEnd w3 w4 m3 b3 b4; have qf0 := qf 0; have qf1 := qf 1; have qf2 := qf 2; have qf3 := qf 3; have qf5 := qf 5; have qf7 := qf 7; clear hEnd))
          go_end0
          exact ⟨rfl, HD.out⟩
end Go.Proofs.Ytjpneohachkheaa
