/-
  What stands against an effect. Conditions: those that each theorem names.
-/
import Derived.Test.YtjpneohachkheaaSm7
namespace Go.Proofs.Ytjpneohachkheaa
open Go.RowKit Go.Icz Go.Maps Go.ChangeMaps Go.MapKept
set_option maxRecDepth 100000
set_option maxHeartbeats 1000000
variable {w w' : World} {T : Nat → Prop} {c c' q p n s : Nat} {cv : Value} {fl : List FV} {M M' : DM}
theorem Pl.touch0 (h : Pl w T c q p n s cv fl M) (t : Tch (fun _ => False) w w') : Pl w' T c q p n s cv fl M := h.touch t (fun _ h => h.elim)
theorem bounds (h : Pl w T c q p n s cv fl M) : (∀ x ∈ fl, x.m.b.length ≤ 1048576) ∧ (∀ e ∈ M.names, e.2 < fl.length) ∧ M.names.length ≤ 1048576 := by
  refine ⟨fun x hx => (h.wf.fw x.m (by rw [← h.fm]; exact List.mem_map.2 ⟨x, hx, rfl⟩)).2.1, fun e he => by rw [h.len]; exact h.wf.ni e he, Nat.le_trans h.wf.ln h.wf.hc⟩
theorem used_le (h : Pl w T c q p n s cv fl M) : used M.fs M.names ≤ 1099511627776 := by
  have hb : ∀ i, (fileAt M.fs i).b.length ≤ 1048576 := by
    intro i
    unfold fileAt
    rw [List.getD_eq_getElem?_getD]
    cases hx : M.fs[i]? with
    | none => simp [f0]
    | some x => exact (h.wf.fw x (List.mem_of_getElem? hx)).2.1
  have : ∀ N : NM, used M.fs N ≤ N.length * 1048576 := by
    intro N
    unfold used
    induction N with
    | nil => simp
    | cons a r ih =>
      rw [List.map_cons, List.sum_cons, List.length_cons]
      have := hb a.2
      omega
  have h1 := this M.names
  have h2 := (bounds h).2.2
  omega
theorem used_is (h : Pl w T c q p n s cv fl M) : Calls Try.prog 40 #[.map (some n)] w fun e w' => e = .returned (.int .i64 (used M.fs M.names : Nat)) ∧ Tch (fun _ => False) w w' := by
  have hb := bounds h
  have := mbytes_is h.nm h.fls h.wf.nn hb.2.1 hb.1 hb.2.2
  rwa [h.fm] at this
theorem agNew_is (h : Pl w T c q p n s cv fl M) (k : ByteArray) (hk : k.size ≤ maxLen) :
    Calls Try.prog 52 #[.pointer (some ⟨p, 0, none⟩), .string k] w fun e w' => e = .returned (.int .i64 (agCreate M k)) ∧ Tch (fun _ => False) w w' := by
  have hR := right_is k w (by unfold maxLen at hk; omega)
  have hNext : ∀ w1, Tch (fun _ => False) w w1 → w1.cell? ⟨p, 5, none⟩ = some (.map (some n)) ∧ (Instr.lookup 66 (.map (some n)) (.string k) false).run Try.prog w1 = .ok (ptO (bl fl) (nlook M.names k)) w1 ∧ ∀ ty, (Builtin.len_ #[66] ty #[.map (some n)]).run Try.prog w1 = .ok (.int .i64 (M.names.length : Nat)) w1 := fun w1 t1 => by
    have h1 := h.touch0 t1
    exact ⟨held_cell h1.p_ rfl, h1.nm.look1 k hk, h1.nm.len⟩
  have hag : agCreate M k = if rightB k = false then 1 else if (nlook M.names k).isSome then 4 else if 512 ≤ M.names.length then 7 else 0 := rfl
  clear h
  cases hr : rightB k
  · rw [hr, if_pos rfl] at hag
    rw [hr] at hR
    rw [hag]
    clear hag
    go_enter Try.func52, Try.ntmps52
    go_wp2_with (go_at_call 55; refine hR.mono ?_; rintro e1 w1 ⟨rfl, t1⟩; clear hR)
    go_ret
    exact ⟨rfl, t1⟩
  · rw [hr, if_neg (by simp)] at hag
    rw [hr] at hR
    cases hl : nlook M.names k with
    | some i =>
      rw [hl, Option.isSome_some, if_pos rfl] at hag
      rw [hl] at hNext
      unfold ptO at hNext
      rw [hag]
      clear hag
      go_enter Try.func52, Try.ntmps52
      go_wp2_with (go_at_call 55; refine hR.mono ?_; rintro e1 w1 ⟨rfl, t1⟩; obtain ⟨c5, hlk, hln⟩ := hNext w1 t1; clear hR hNext)
      go_ret
      exact ⟨rfl, t1⟩
    | none =>
      rw [hl, Option.isSome_none, if_neg (by simp)] at hag
      rw [hl] at hNext
      unfold ptO at hNext
      rw [hag]
      by_cases h5 : 512 ≤ M.names.length
      · rw [if_pos h5]
        have hd : (512 : Int) ≤ (M.names.length : Int) := by omega
        clear hag h5
        go_enter Try.func52, Try.ntmps52
        go_wp2_with (go_at_call 55; refine hR.mono ?_; rintro e1 w1 ⟨rfl, t1⟩; obtain ⟨c5, hlk, hln⟩ := hNext w1 t1; clear hR hNext)
        go_ret
        exact ⟨rfl, t1⟩
      · rw [if_neg h5]
        have hd : ¬ (512 : Int) ≤ (M.names.length : Int) := by omega
        have hd2 : (M.names.length : Int) < 512 := by omega
        clear hag h5
        go_enter Try.func52, Try.ntmps52
        go_wp2_with (go_at_call 55; refine hR.mono ?_; rintro e1 w1 ⟨rfl, t1⟩; obtain ⟨c5, hlk, hln⟩ := hNext w1 t1; clear hR hNext)
        go_ret
        exact ⟨rfl, t1⟩
theorem agMore_is (h : Pl w T c q p n s cv fl M) (k : ByteArray) (hk : k.size ≤ maxLen) (l : Nat) (hl : l ≤ 1125899906842624) :
    Calls Try.prog 53 #[.pointer (some ⟨p, 0, none⟩), .string k, .int .i64 (l : Int)] w fun e w' => e = .returned (.int .i64 (agMore M k l)) ∧ Tch (fun _ => False) w w' := by
  have hTh := there_is h k hk
  have hag : agMore M k l = if (nlook M.names k).isSome = false then 3 else if M.quota < used M.fs M.names + l then 7 else 0 := rfl
  unfold agThere at hTh
  cases hn : (nlook M.names k).isSome
  · rw [hn, if_pos rfl] at hag
    rw [hn] at hTh
    rw [hag]
    clear h hag
    go_enter Try.func53, Try.ntmps53
    go_wp2_with (go_at_call 54; refine hTh.mono ?_; rintro e1 w1 ⟨rfl, rfl⟩; clear hTh)
    go_ret
    exact ⟨rfl, Tch.refl _ _⟩
  · rw [hn, if_neg (by simp)] at hag
    rw [hn] at hTh
    have hU := used_is (h.touch0 (Tch.drew _ w))
    have hul := used_le h
    have hkk : w.cell? ⟨p, 5, none⟩ = some (.map (some n)) ∧ w.cell? ⟨p, 4, none⟩ = some (.int .i64 (M.quota : Int)) := ⟨held_cell h.p_ rfl, held_cell h.p_ rfl⟩
    have hNext : ∀ w1, Tch (fun _ => False) w.drew w1 → w1.cell? ⟨p, 5, none⟩ = some (.map (some n)) ∧ w1.cell? ⟨p, 4, none⟩ = some (.int .i64 (M.quota : Int)) := fun w1 t1 => by
      have h1 := (h.touch0 (Tch.drew _ w)).touch0 t1
      exact ⟨held_cell h1.p_ rfl, held_cell h1.p_ rfl⟩
    have hwr : IntKind.i64.wrap ((used M.fs M.names : Int) + (l : Int)) = ((used M.fs M.names + l : Nat) : Int) := by rw [IntKind.wrap_i64]; omega
    rw [hag]
    by_cases hq : M.quota < used M.fs M.names + l
    · rw [if_pos hq]
      have hd : (M.quota : Int) < ((used M.fs M.names + l : Nat) : Int) := by omega
      clear h hag hq hul
      generalize hUL : used M.fs M.names + l = ul at *
      generalize used M.fs M.names = us at *
      clear hUL
      go_enter Try.func53, Try.ntmps53
      go_wp2_with (go_at_call 54; refine hTh.mono ?_; rintro e1 w1 ⟨rfl, rfl⟩; clear hTh)
      go_region_held3 (fun w' => w'.cell? ⟨p, 5, none⟩ = some (.map (some n)) ∧ w'.cell? ⟨p, 4, none⟩ = some (.int .i64 (M.quota : Int))) (exact hkk) (first | (go_at_call 40; refine hU.mono ?_; rintro e2 w2 ⟨rfl, t2⟩; have hkk := hNext w2 t2; clear hU hNext))
      go_wp2
      go_ret
      exact ⟨rfl, (Tch.drew _ w1).trans t2⟩
    · rw [if_neg hq]
      have hd : ¬ (M.quota : Int) < ((used M.fs M.names + l : Nat) : Int) := by omega
      have hd2 : ((used M.fs M.names + l : Nat) : Int) ≤ (M.quota : Int) := by omega
      clear h hag hq hul
      generalize hUL : used M.fs M.names + l = ul at *
      generalize used M.fs M.names = us at *
      clear hUL
      go_enter Try.func53, Try.ntmps53
      go_wp2_with (go_at_call 54; refine hTh.mono ?_; rintro e1 w1 ⟨rfl, rfl⟩; clear hTh)
      go_region_held3 (fun w' => w'.cell? ⟨p, 5, none⟩ = some (.map (some n)) ∧ w'.cell? ⟨p, 4, none⟩ = some (.int .i64 (M.quota : Int))) (exact hkk) (first | (go_at_call 40; refine hU.mono ?_; rintro e2 w2 ⟨rfl, t2⟩; have hkk := hNext w2 t2; clear hU hNext))
      go_wp2
      go_ret
      exact ⟨rfl, (Tch.drew _ w1).trans t2⟩
theorem ag_create (h : Pl w T c q p n s cv fl M) (k : ByteArray) (hk : k.size ≤ maxLen) (g : Nat) :
    Calls Try.prog 46 #[.pointer (some ⟨p, 0, none⟩), .iface 85 (.agg #[.string k, .pointer (some ⟨g, 0, none⟩)])] w fun e w' => e = .returned (.int .i64 (agCreate M k)) ∧ Tch (fun _ => False) w w' := by
  have ta : Tch (fun _ => False) w (w.alloc (.cells #[.string k, .pointer (some ⟨g, 0, none⟩)] 85)) := Tch.alloc _ _ _
  have h1 := h.touch0 ta
  have hA := agNew_is h1 k hk
  have as0 := as_create_create
  clear h h1
  go_enter Try.func46, Try.ntmps46
  go_wp2_with (first | (go_at_call 52; refine hA.mono ?_; rintro e1 w1 ⟨rfl, t1⟩))
  go_ret
  exact ⟨rfl, ta.trans t1⟩
theorem ag_extend (h : Pl w T c q p n s cv fl M) (k : ByteArray) (hk : k.size ≤ maxLen) (A : Option Addr) (l C : Nat) (hl : l ≤ 1125899906842624) :
    Calls Try.prog 46 #[.pointer (some ⟨p, 0, none⟩), .iface 87 (.agg #[.string k, .slice A l C])] w fun e w' => e = .returned (.int .i64 (agMore M k l)) ∧ Tch (fun _ => False) w w' := by
  have ta : Tch (fun _ => False) w (w.alloc (.cells #[.string k, .slice A l C] 87)) := Tch.alloc _ _ _
  have h1 := h.touch0 ta
  have hA := agMore_is h1 k hk l hl
  have as0 := as_extend_create
  have as1 := as_extend_extend
  clear h h1
  go_enter Try.func46, Try.ntmps46
  go_wp2_with (first | (go_at_call 53; refine hA.mono ?_; rintro e1 w1 ⟨rfl, t1⟩))
  go_ret
  exact ⟨rfl, ta.trans t1⟩
theorem ag_remove (h : Pl w T c q p n s cv fl M) (k : ByteArray) (hk : k.size ≤ maxLen) :
    Calls Try.prog 46 #[.pointer (some ⟨p, 0, none⟩), .iface 91 (.agg #[.string k])] w fun e w' => e = .returned (.int .i64 (agThere M k)) ∧ Tch (fun _ => False) w w' := by
  have ta : Tch (fun _ => False) w (w.alloc (.cells #[.string k] 91)) := Tch.alloc _ _ _
  have h1 := h.touch0 ta
  have hA := there_is h1 k hk
  have as0 := as_remove_create
  have as1 := as_remove_extend
  have as2 := as_remove_rename
  have as3 := as_remove_remove
  clear h h1
  go_enter Try.func46, Try.ntmps46
  go_wp2_with (first | (go_at_call 54; refine hA.mono ?_; rintro e1 w1 ⟨rfl, rfl⟩))
  go_ret
  exact ⟨rfl, ta⟩
theorem ag_syncFile (h : Pl w T c q p n s cv fl M) (k : ByteArray) (hk : k.size ≤ maxLen) :
    Calls Try.prog 46 #[.pointer (some ⟨p, 0, none⟩), .iface 92 (.agg #[.string k])] w fun e w' => e = .returned (.int .i64 (agThere M k)) ∧ Tch (fun _ => False) w w' := by
  have ta : Tch (fun _ => False) w (w.alloc (.cells #[.string k] 92)) := Tch.alloc _ _ _
  have h1 := h.touch0 ta
  have hA := there_is h1 k hk
  have as0 := as_syncFile_create
  have as1 := as_syncFile_extend
  have as2 := as_syncFile_rename
  have as3 := as_syncFile_remove
  have as4 := as_syncFile_syncFile
  clear h h1
  go_enter Try.func46, Try.ntmps46
  go_wp2_with (first | (go_at_call 54; refine hA.mono ?_; rintro e1 w1 ⟨rfl, rfl⟩))
  go_ret
  exact ⟨rfl, ta⟩
theorem ag_syncNames (h : Pl w T c q p n s cv fl M) :
    Calls Try.prog 46 #[.pointer (some ⟨p, 0, none⟩), .iface 94 (.agg #[])] w fun e w' => e = .returned (.int .i64 0) ∧ Tch (fun _ => False) w w' := by
  have as0 := as_syncNames_create
  have as1 := as_syncNames_extend
  have as2 := as_syncNames_rename
  have as3 := as_syncNames_remove
  have as4 := as_syncNames_syncFile
  have as5 := as_syncNames_syncNames
  clear h
  go_enter Try.func46, Try.ntmps46
  go_wp2
  go_ret
  exact ⟨rfl, Tch.refl _ _⟩
theorem ag_rename (h : Pl w T c q p n s cv fl M) (a b : ByteArray) (ha : a.size ≤ maxLen) (hb : b.size ≤ maxLen) :
    Calls Try.prog 46 #[.pointer (some ⟨p, 0, none⟩), .iface 89 (.agg #[.string a, .string b])] w fun e w' => e = .returned (.int .i64 (agRename M a b)) ∧ Tch (fun _ => False) w w' := by
  have ta : Tch (fun _ => False) w (w.alloc (.cells #[.string a, .string b] 89)) := Tch.alloc _ _ _
  have hA := there_is (h.touch0 ta) a ha
  have hR := right_is b (w.alloc (.cells #[.string a, .string b] 89)) (by unfold maxLen at hb; omega)
  have hag : agRename M a b = if (nlook M.names a).isSome = false then 3 else if rightB b = false then 1 else 0 := rfl
  unfold agThere at hA
  have as0 := as_rename_create
  have as1 := as_rename_extend
  have as2 := as_rename_rename
  clear h
  cases hl : (nlook M.names a).isSome
  · rw [hl] at hA hag
    rw [if_pos rfl] at hag
    rw [hag]
    clear hag hR
    go_enter Try.func46, Try.ntmps46
    go_wp2_with (go_at_call 54; refine hA.mono ?_; rintro e1 w1 ⟨rfl, rfl⟩; clear hA)
    go_ret
    exact ⟨rfl, ta⟩
  · rw [hl] at hA hag
    rw [if_neg (by simp)] at hag
    rw [hag]
    clear hag
    cases hr : rightB b
    · rw [hr] at hR
      rw [if_pos rfl]
      go_enter Try.func46, Try.ntmps46
      go_wp2_with (first
        | (go_at_call 54; refine hA.mono ?_; rintro e1 w1 ⟨rfl, rfl⟩; clear hA)
        | (go_at_call 55; refine hR.mono ?_; rintro e2 w2 ⟨rfl, t2⟩; clear hR))
      go_ret
      exact ⟨rfl, ta.trans t2⟩
    · rw [hr] at hR
      rw [if_neg (by simp)]
      go_enter Try.func46, Try.ntmps46
      go_wp2_with (first
        | (go_at_call 54; refine hA.mono ?_; rintro e1 w1 ⟨rfl, rfl⟩; clear hA)
        | (go_at_call 55; refine hR.mono ?_; rintro e2 w2 ⟨rfl, t2⟩; clear hR))
      go_ret
      exact ⟨rfl, ta.trans t2⟩
end Go.Proofs.Ytjpneohachkheaa
