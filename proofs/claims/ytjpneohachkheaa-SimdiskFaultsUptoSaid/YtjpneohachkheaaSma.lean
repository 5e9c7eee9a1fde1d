/-
  The calls of a disk: the six operations, the looks, the switches, New. Conditions: those that each theorem names.
-/
import Derived.Test.YtjpneohachkheaaSm9
namespace Go.Proofs.Ytjpneohachkheaa
open Go.RowKit Go.Icz Go.Maps Go.ChangeMaps Go.MapKept
set_option maxRecDepth 100000
set_option maxHeartbeats 1000000
variable {w w' : World} {T T' : Nat → Prop} {c c' q p n s : Nat} {cv : Value} {fl : List FV} {M M' : DM}
theorem ask_eq (M : DM) (h1 : -1 ≤ M.fuse ∧ M.fuse ≤ 9223372036854775807) (h2 : 0 ≤ M.fault ∧ M.fault ≤ 9223372036854775807) : ∃ o f a, (askM M).2.2 = { M with off := o, fuse := f, fault := a } ∧ (-1 ≤ f ∧ f ≤ 9223372036854775807) ∧ (0 ≤ a ∧ a ≤ 9223372036854775807) := by
  unfold askM
  split
  · exact ⟨true, M.fuse, M.fault, rfl, h1, h2⟩
  · rename_i hz
    have hf : (-1 : Int) ≤ (if 0 < M.fuse then M.fuse - 1 else M.fuse) ∧ (if 0 < M.fuse then M.fuse - 1 else M.fuse) ≤ 9223372036854775807 := by split <;> omega
    simp only
    split
    · exact ⟨_, _, _, rfl, hf, h2⟩
    · split
      · exact ⟨_, _, _, rfl, hf, by omega⟩
      · exact ⟨_, _, _, rfl, hf, by omega⟩
theorem wf_sw (h : WfM M c) {o d : Bool} {f a : Int} (h1 : -1 ≤ f ∧ f ≤ 9223372036854775807) (h2 : 0 ≤ a ∧ a ≤ 9223372036854775807) : WfM { M with off := o, fuse := f, fault := a, done := d } c :=
  ⟨h.nn, h.sn, h.ni, h.si, h.ci, h.fw, h.ln, h.lc, h.lf, h.hc, h.qu, h1, h2, h.nz, h.cz, h.sz⟩
/-- The switches turned. -/
theorem Pl.sw (h : Pl w T c q p n s cv fl M) (t : Tch (· = p) w w') {o d : Bool} {f a : Int} (hp : w'.heap[p]? = some (.cells (plR { M with off := o, fuse := f, fault := a, done := d } n s cv) 69 (0, 0))) (h1 : -1 ≤ f ∧ f ≤ 9223372036854775807) (h2 : 0 ≤ a ∧ a ≤ 9223372036854775807) :
    Pl w' T c q p n s cv fl { M with off := o, fuse := f, fault := a, done := d } := by
  obtain ⟨pq, pn, ps, pc, pf⟩ := h.pne
  exact h.plate t (fun j hj => hj ▸ ⟨pq, pf⟩) hp (h.nm.touch t (fun e => pn e.symm)) (h.sm.touch t (fun e => ps e.symm)) h.ns (h.ch.touch t (fun j hj hk => pc (by rw [← hj]; exact hk)))
    ⟨h.ft _ (.inr (.inr (.inl rfl))), h.ft _ (.inr (.inr (.inr (.inl rfl)))), fun k hk => h.ft _ (.inr (.inr (.inr (.inr (.inl hk)))))⟩ rfl (wf_sw h.wf h1 h2)
theorem operate_is (h : Pl w T c q p n s cv fl M) (t : TypeId) (v : Value) (ag : Int) (act : DM → DM) (hc : c ≤ c') (hb : c' ≤ 1048576)
    (hag : Calls Try.prog 46 #[.pointer (some ⟨p, 0, none⟩), .iface t v] w fun e w' => e = .returned (.int .i64 ag) ∧ Tch (fun _ => False) w w')
    (hdo : ag = 0 → ∀ w1 o f a, Tch (· = p) w w1 → Pl w1 T c q p n s cv fl { M with off := o, fuse := f, fault := a } → Calls Try.prog 48 #[.pointer (some ⟨p, 0, none⟩), .iface t v] w1 fun e w' => e = .returned (.tuple #[]) ∧ Done w1 T c' q p (act { M with off := o, fuse := f, fault := a }) w') :
    Calls Try.prog 39 #[.pointer (some ⟨q, 0, none⟩), .iface t v] w fun e w' => e = .returned (.int .i64 (opM M ag act).1) ∧ Done w T c' q p (opM M ag act).2 w' := by
  have hR := ready_yes h.q_ h.p_
  have c0 : w.cell? ⟨q, 0, none⟩ = some (.pointer (some ⟨p, 0, none⟩)) := held_cell h.q_ rfl
  have hop : opM M ag act = if M.off then (9, M) else if ag ≠ 0 then (ag, M) else ((askM M).2.1, if (askM M).1 then act (askM M).2.2 else (askM M).2.2) := rfl
  have HH := hid h
  cases ho : M.off
  · rw [ho] at hR hop
    rw [if_neg (by simp)] at hop
    by_cases hz : ag = 0
    · subst hz
      rw [if_neg (by simp)] at hop
      have hd := hdo rfl
      obtain ⟨o, f, a, hask, hf, ha⟩ := ask_eq M h.wf.fu h.wf.fa
      have hA : ∀ w1, Tch (fun _ => False) w w1 → w1.cell? ⟨q, 0, none⟩ = some (.pointer (some ⟨p, 0, none⟩)) ∧ Calls Try.prog 47 #[.pointer (some ⟨p, 0, none⟩)] w1 fun e w' => e = .returned (.tuple #[.bool (askM M).1, .int .i64 (askM M).2.1]) ∧ w'.cell? ⟨q, 0, none⟩ = some (.pointer (some ⟨p, 0, none⟩)) ∧ Tch (· = p) w w' ∧ Hid (Pl w' T c q p n s cv fl (askM M).2.2) := fun w1 t1 => by
        have h1 := h.touch0 t1
        refine ⟨held_cell h1.q_ rfl, (ask_is h1.p_ h.wf.fu h.wf.fa).mono ?_⟩
        rintro e w2 ⟨rfl, hp2, t2⟩
        rw [hask] at hp2
        have P := h1.sw t2 hp2 hf ha
        exact ⟨rfl, held_cell P.q_ rfl, (t1.mono (fun _ h => h.elim)).trans t2, hid (by rw [hask]; exact P)⟩
      have hD : ∀ w2, Tch (· = p) w w2 → Hid (Pl w2 T c q p n s cv fl (askM M).2.2) → (Calls Try.prog 48 #[.pointer (some ⟨p, 0, none⟩), .iface t v] w2 fun e w' => e = .returned (.tuple #[]) ∧ Done w T c' q p (act (askM M).2.2) w') ∧ Hid (Done w T c' q p (askM M).2.2 w2) := fun w2 t2 P2 => by
        have P := P2.out
        rw [hask] at P
        have t2' : Tch T w w2 := t2.mono (fun j hj => h.ft _ (.inr (.inl hj)))
        refine ⟨(hd w2 o f a t2 P).mono ?_, hid ⟨⟨_, _, _, _, P2.out.up hc hb⟩, t2'⟩⟩
        rintro e w3 ⟨rfl, D⟩
        rw [hask]
        exact ⟨rfl, D.trans0 t2'⟩
      have HOP := hid hop
      clear h hdo hd hask hop HH
      generalize (askM M).2.2 = MA at *
      generalize hag2 : (askM M).2.1 = ea at *
      generalize hag1 : (askM M).1 = da at *
      rw [HOP.out]
      clear HOP hag1 hag2
      cases da
      · go_enter Try.func39, Try.ntmps39
        go_wp2_with (first
          | (go_at_call 37; refine hR.mono ?_; rintro e1 w1 ⟨rfl, rfl⟩; clear hR)
          | (go_at_call 46; refine hag.mono ?_; rintro e2 w2 ⟨rfl, t2⟩; obtain ⟨c02, hK⟩ := hA w2 t2; clear hag hA)
          | (go_at_call 47; refine hK.mono ?_; rintro e3 w3 ⟨rfl, c03, t3, P3⟩; obtain ⟨_, HD⟩ := hD w3 t3 P3; clear hK hD))
        go_ret
        exact ⟨rfl, HD.out⟩
      · go_enter Try.func39, Try.ntmps39
        go_wp2_with (first
          | (go_at_call 37; refine hR.mono ?_; rintro e1 w1 ⟨rfl, rfl⟩; clear hR)
          | (go_at_call 46; refine hag.mono ?_; rintro e2 w2 ⟨rfl, t2⟩; obtain ⟨c02, hK⟩ := hA w2 t2; clear hag hA)
          | (go_at_call 47; refine hK.mono ?_; rintro e3 w3 ⟨rfl, c03, t3, P3⟩; obtain ⟨hDo, _⟩ := hD w3 t3 P3; clear hK hD)
          | (go_at_call 48; refine hDo.mono ?_; rintro e4 w4 ⟨rfl, D4⟩; clear hDo))
        go_ret
        exact ⟨rfl, D4⟩
    · rw [if_pos hz] at hop
      have hz2 : (ag != 0) = true := by simpa using hz
      have hz3 : (ag == 0) = false := by simpa using hz
      rw [hop]
      clear h hdo hop hz
      go_enter Try.func39, Try.ntmps39
      go_wp2_with (first
        | (go_at_call 37; refine hR.mono ?_; rintro e1 w1 ⟨rfl, rfl⟩; clear hR)
        | (go_at_call 46; refine hag.mono ?_; rintro e2 w2 ⟨rfl, t2⟩; clear hag))
      go_ret
      exact ⟨rfl, ⟨_, _, _, _, (HH.out.touch0 t2).up hc hb⟩, t2.mono (fun _ h => h.elim)⟩
  · rw [ho] at hR hop
    rw [if_pos rfl] at hop
    rw [hop]
    clear h hdo hop
    go_enter Try.func39, Try.ntmps39
    go_wp2_with (go_at_call 37; refine hR.mono ?_; rintro e1 w1 ⟨rfl, rfl⟩; clear hR)
    go_ret
    exact ⟨rfl, ⟨_, _, _, _, HH.out.up hc hb⟩, Tch.refl _ _⟩
theorem Done.up (h : Done w T c q p M w') (hc : c ≤ c') (hb : c' ≤ 1048576) : Done w T c' q p M w' := by
  obtain ⟨⟨n, s, cv, fl, P⟩, t⟩ := h
  exact ⟨⟨n, s, cv, fl, P.up hc hb⟩, t⟩
theorem calls_up {f : Nat} {args : Array Value} {w1 : World} (h : Calls Try.prog f args w1 fun e w' => e = .returned (.tuple #[]) ∧ Done w1 T c q p M w') (hc : c ≤ c') (hb : c' ≤ 1048576) : Calls Try.prog f args w1 fun e w' => e = .returned (.tuple #[]) ∧ Done w1 T c' q p M w' :=
  h.mono fun e w' ⟨he, hd⟩ => ⟨he, hd.up hc hb⟩
theorem right_size {k : ByteArray} (h : rightB k = true) : k.size ≤ 64 := by
  unfold rightB at h
  simp at h
  exact h.1.2
theorem there_size (h : Pl w T c q p n s cv fl M) {k : ByteArray} (hk : (nlook M.names k).isSome = true) : k.size ≤ 64 := by
  obtain ⟨i, hi⟩ := Option.isSome_iff_exists.1 hk
  exact h.wf.nz _ (look_mem hi)
theorem thereOf {k : ByteArray} (h : agThere M k = 0) : (nlook M.names k).isSome = true := by
  unfold agThere at h
  split at h
  · assumption
  · cases h
theorem Remove_is (h : Pl w T c q p n s cv fl M) (hT : ∀ k, w.heap.size ≤ k → T k) (k : ByteArray) (hk : k.size ≤ maxLen) (hb : c + 2 ≤ 1048576) :
    Calls Try.prog 16 #[.pointer (some ⟨q, 0, none⟩), .string k] w fun e w' => e = .returned (.int .i64 (removeM M k).1) ∧ Done w T (c + 2) q p (removeM M k).2 w' := by
  have hO := operate_is (c' := c + 2) h 91 (.agg #[.string k]) _ _ (by omega) hb (ag_remove h k hk) (fun hz w1 o1 f1 a1 t1 P1 => calls_up (do_remove P1 (fun j hj => hT j (Nat.le_trans t1.size hj)) k (there_size h (thereOf hz)) (by omega)) (by omega) hb)
  clear h
  go_enter Try.func16, Try.ntmps16
  go_wp2_with (go_at_call 39; refine hO.mono ?_; rintro e1 w1 ⟨rfl, D1⟩; clear hO)
  go_ret
  exact ⟨rfl, D1⟩
theorem Sync_is (h : Pl w T c q p n s cv fl M) (hT : ∀ k, w.heap.size ≤ k → T k) (k : ByteArray) (hk : k.size ≤ maxLen) (hb : c + 2 ≤ 1048576) :
    Calls Try.prog 17 #[.pointer (some ⟨q, 0, none⟩), .string k] w fun e w' => e = .returned (.int .i64 (syncM M k).1) ∧ Done w T (c + 2) q p (syncM M k).2 w' := by
  have hO := operate_is (c' := c + 2) h 92 (.agg #[.string k]) _ _ (by omega) hb (ag_syncFile h k hk) (fun hz w1 o1 f1 a1 t1 P1 => calls_up (do_sync P1 (fun j hj => hT j (Nat.le_trans t1.size hj)) k hk (thereOf hz)) (by omega) hb)
  clear h
  go_enter Try.func17, Try.ntmps17
  go_wp2_with (go_at_call 39; refine hO.mono ?_; rintro e1 w1 ⟨rfl, D1⟩; clear hO)
  go_ret
  exact ⟨rfl, D1⟩
theorem SyncDir_is (h : Pl w T c q p n s cv fl M) (hT : ∀ k, w.heap.size ≤ k → T k)  (hb : c + 2 ≤ 1048576) :
    Calls Try.prog 18 #[.pointer (some ⟨q, 0, none⟩)] w fun e w' => e = .returned (.int .i64 (dirM M).1) ∧ Done w T (c + 2) q p (dirM M).2 w' := by
  have hO := operate_is (c' := c + 2) h 94 (.agg #[]) _ _ (by omega) hb (ag_syncNames h) (fun hz w1 o1 f1 a1 t1 P1 => calls_up (do_dir P1 (fun j hj => hT j (Nat.le_trans t1.size hj))) (by omega) hb)
  clear h
  go_enter Try.func18, Try.ntmps18
  go_wp2_with (go_at_call 39; refine hO.mono ?_; rintro e1 w1 ⟨rfl, D1⟩; clear hO)
  go_ret
  exact ⟨rfl, D1⟩
theorem renOf {a b : ByteArray} (h : agRename M a b = 0) : (nlook M.names a).isSome = true ∧ rightB b = true := by
  unfold agRename at h
  split at h
  · cases h
  · rename_i h1
    split at h
    · cases h
    · rename_i h2
      exact ⟨(Bool.not_eq_false _).mp h1, (Bool.not_eq_false _).mp h2⟩
theorem Rename_is (h : Pl w T c q p n s cv fl M) (hT : ∀ k, w.heap.size ≤ k → T k) (a b : ByteArray) (ha : a.size ≤ maxLen) (hb2 : b.size ≤ maxLen) (hb : c + 2 ≤ 1048576) :
    Calls Try.prog 15 #[.pointer (some ⟨q, 0, none⟩), .string a, .string b] w fun e w' => e = .returned (.int .i64 (renameM M a b).1) ∧ Done w T (c + 2) q p (renameM M a b).2 w' := by
  have hO := operate_is (c' := c + 2) h 89 (.agg #[.string a, .string b]) _ _ (by omega) hb (ag_rename h a b ha hb2) (fun hz w1 o1 f1 a1 t1 P1 => calls_up (do_rename P1 (fun j hj => hT j (Nat.le_trans t1.size hj)) a b (there_size h (renOf hz).1) (right_size (renOf hz).2) (by omega)) (by omega) hb)
  clear h
  go_enter Try.func15, Try.ntmps15
  go_wp2_with (go_at_call 39; refine hO.mono ?_; rintro e1 w1 ⟨rfl, D1⟩; clear hO)
  go_ret
  exact ⟨rfl, D1⟩
theorem moreOf {k : ByteArray} {l : Nat} (h : agMore M k l = 0) : (nlook M.names k).isSome = true ∧ used M.fs M.names + l ≤ M.quota := by
  unfold agMore at h
  split at h
  · cases h
  · rename_i h1
    split at h
    · cases h
    · rename_i h2
      exact ⟨(Bool.not_eq_false _).mp h1, by omega⟩
theorem Append_is (h : Pl w T c q p n s cv fl M) (hT : ∀ k, w.heap.size ≤ k → T k) (k : ByteArray) (hk : k.size ≤ maxLen) {A : Option Addr} {C : Nat} {l : List Nat} (hu : KB.Rd w (.slice A l.length C) l) (hl : l.length ≤ 1125899906842624) (hfar : 0 < l.length → ∀ b, (Value.slice A l.length C).ownBlock = some b → b ≠ p) (hb : c + 2 ≤ 1048576) :
    Calls Try.prog 14 #[.pointer (some ⟨q, 0, none⟩), .string k, .slice A l.length C] w fun e w' => e = .returned (.int .i64 (appendM M k l).1) ∧ Done w T (c + 2) q p (appendM M k l).2 w' := by
  have hO := operate_is (c' := c + 2) h 87 (.agg #[.string k, .slice A l.length C]) _ _ (by omega) hb (ag_extend h k hk A l.length C hl) (fun hz w1 o1 f1 a1 t1 P1 => calls_up (do_extend P1 (fun j hj => hT j (Nat.le_trans t1.size hj)) k hk (moreOf hz).1 (rd_touch hu t1 (fun h0 b hb hp => hfar h0 b hb hp)) (moreOf hz).2) (by omega) hb)
  clear h
  go_enter Try.func14, Try.ntmps14
  go_wp2_with (go_at_call 39; refine hO.mono ?_; rintro e1 w1 ⟨rfl, D1⟩; clear hO)
  go_ret
  exact ⟨rfl, D1⟩
theorem newOf {k : ByteArray} (h : agCreate M k = 0) : rightB k = true := by
  unfold agCreate at h
  split at h
  · cases h
  · rename_i h1
    simpa using h1
theorem Create_is (h : Pl w T c q p n s cv fl M) (hT : ∀ k, w.heap.size ≤ k → T k) (k : ByteArray) (hk : k.size ≤ maxLen) (hb : c + 2 ≤ 1048576) :
    Calls Try.prog 13 #[.pointer (some ⟨q, 0, none⟩), .string k] w fun e w' => e = .returned (.int .i64 (createM M k).1) ∧ Done w T (c + 2) q p (createM M k).2 w' := by
  have ta : Tch (fun _ => False) w (w.alloc (.cells #[.slice none 0 0, .int .i64 0, .slice none 0 0] 82)) := Tch.alloc _ _ _
  have h1 := h.touch0 ta
  have hg : Fil (w.alloc (.cells #[.slice none 0 0, .int .i64 0, .slice none 0 0] 82)) ⟨w.heap.size, .slice none 0 0, .slice none 0 0, f0⟩ := ⟨heap_alloc_new w _, Kd.Own.nil _ _, Kd.Own.nil _ _⟩
  have hlt := h.lt
  have hO := operate_is (c' := c + 2) h1 85 (.agg #[.string k, .pointer (some ⟨w.heap.size, 0, none⟩)]) _ _ (by omega) hb (ag_create h1 k hk w.heap.size) (fun hz w1 o1 f1 a1 t1 P1 => do_create P1 (fun j hj => hT j (Nat.le_trans ta.size (Nat.le_trans t1.size hj))) k (right_size (newOf hz)) (hg.touch t1 (fun j hj hf => by
      have := hlt p (.inr (.inl rfl))
      rcases hf with hf | hf | hf
      · have hf : j = w.heap.size := hf
        omega
      · cases hf
      · cases hf)) (fun j hj => Nat.ne_of_lt (hlt j hj)) (hT _ (Nat.le_refl _)) hb)
  have HD : ∀ w1, Done (w.alloc (.cells #[.slice none 0 0, .int .i64 0, .slice none 0 0] 82)) T (c + 2) q p (createM M k).2 w1 → Done w T (c + 2) q p (createM M k).2 w1 := fun w1 D => D.trans0 (ta.mono (fun _ h => h.elim))
  clear h h1 hg
  go_enter Try.func13, Try.ntmps13
  go_wp2_with (go_at_call 39; refine hO.mono ?_; rintro e1 w1 ⟨rfl, D1⟩; clear hO)
  go_ret
  exact ⟨rfl, HD _ D1⟩
end Go.Proofs.Ytjpneohachkheaa
