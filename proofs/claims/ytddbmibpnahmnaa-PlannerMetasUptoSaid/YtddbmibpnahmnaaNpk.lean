/-
  What Pack tells. Conditions: the list is no longer than 2^40; a number is one that an int holds.
-/
import Derived.Test.YtddbmibpnahmnaaNrn
namespace Go.Icz
open Go.RowKit
theorem PackA.of_run {s : List MV} {fan : Nat} {mb : Int} {lv : Nat} {a : List MV} (hl : lv < 20) (h0 : ∀ lv' : Nat, lv' < lv → ∀ i : Nat, i + fan ≤ s.length → ¬ goodM s fan mb lv' i) (h : RunA s fan mb lv a) (ha : a ≠ []) : PackA s fan mb a := by
  rcases h with ⟨i, h1, h2, h3, h4⟩ | ⟨_, h⟩
  · exact .inl ⟨lv, i, hl, h1, h2, fun lv' i' hor hi => by
      rcases hor with h | ⟨rfl, h⟩
      · exact h0 lv' h i' hi
      · exact h3 i' h, h4⟩
  · exact absurd h ha
theorem RunA.none {s : List MV} {fan : Nat} (hf : 0 < fan) {mb lv : Int} {a : List MV} (h : RunA s fan mb lv a) (ha : a = []) : ∀ i : Nat, i + fan ≤ s.length → ¬ goodM s fan mb lv i := by
  rcases h with ⟨i, h1, h2, h3, h4⟩ | ⟨h, _⟩
  · have := winM_len h1
    rw [← h4, ha] at this
    simp at this
    omega
  · exact h
end Go.Icz
namespace Go.Proofs.Ytddbmibpnahmnaa
open Go.RowKit Go.Icz
set_option maxRecDepth 100000 in
set_option maxHeartbeats 4000000 in
theorem Pack_yes (v : Value) (l : List MV) (fan : Nat) (mb keep now : Int) (w : World) (hR : KMet.Rd w v l) (hlen : l.length ≤ 1099511627776) (hwf : ∀ x ∈ l, wfI x.id) (hn : now ≤ 9223372036854775807) (hpk : packsM fan mb keep = true) :
    Calls Try.prog 33 #[v, rulesV fan mb keep, .int .i64 now] w fun e w' => ∃ a, PackOf l fan mb keep now a ∧ IntsOut w (idsM a) e w' := by
  have r1 := row_alloc (box_row w #[.int .i64 (fan : Int), .int .i64 mb, .int .i64 keep] 70) (.cells #[.int .i64 now] 3)
  have r2 := box_row (w.alloc (.cells #[.int .i64 (fan : Int), .int .i64 mb, .int .i64 keep] 70)) #[.int .i64 now] 3
  rw [World.size_alloc] at r2
  have b2 : Below w.heap.size w ((w.alloc (.cells #[.int .i64 (fan : Int), .int .i64 mb, .int .i64 keep] 70)).alloc (.cells #[.int .i64 now] 3)) := ((Below.refl _ w).alloc (Nat.le_refl _) _).alloc (by simp) _
  have hP := fun w1 => packs_is fan mb keep w1
  have hl2 := those_len l (fun x => !overM keep now x)
  obtain ⟨A, c, rfl, _⟩ := hR.form
  unfold rulesV at hP ⊢
  have HPK := hid hpk
  have hpk2 := hpk
  unfold packsM at hpk2
  rw [decide_eq_true_eq] at hpk2
  obtain ⟨hf1, hf2, hmb, hkp⟩ := hpk2
  rw [hpk] at hP
  clear hpk
  have HRN : Hid (∀ s : List MV, s.Perm (thoseM l (fun x => !overM keep now x)) → (fineM l = true → FinT s) ∧ (fineM l = false → s = []) ∧ (∀ x ∈ s, 0 ≤ x.bytes ∧ x.bytes < 1099511627776)) := hid (fun s hp => by
    have h1 : fineM l = true → FinT s := fun h => by
      refine FinT.perm ((fine_iff.1 h).sub (List.filter_sublist (p := fun x => !overM keep now x))) ?_
      have e : thoseM l (fun x => !overM keep now x) = l.filter (fun x => !overM keep now x) := by unfold thoseM; rw [if_pos h]
      rw [← e]
      exact hp
    have h2 : fineM l = false → s = [] := fun h => by
      have e : thoseM l (fun x => !overM keep now x) = [] := by unfold thoseM; rw [if_neg (by rw [h]; decide)]
      rw [e] at hp
      exact hp.eq_nil
    refine ⟨h1, h2, fun x hx => ?_⟩
    cases hf : fineM l with
    | true => have := rt_iff.1 ((h1 hf).1 x hx); exact ⟨this.by1, this.by2⟩
    | false => rw [h2 hf] at hx; cases hx)
  have HEND : Hid (∀ s : List MV, s.Perm (thoseM l (fun x => !overM keep now x)) → s.Pairwise (fun x y => ¬ ltM y x) → ∀ a, PackA s fan mb a → PackOf l fan mb keep now a) := hid (fun s hp hs a ha => by
    cases hf : fineM l with
    | false =>
      have := ha.sub
      rw [(HRN.out s hp).2.1 hf] at this
      exact .inl ⟨.inr hf, List.sublist_nil.1 this⟩
    | true =>
      have e : thoseM l (fun x => !overM keep now x) = l.filter (fun x => !overM keep now x) := by unfold thoseM; rw [if_pos hf]
      exact .inr ⟨HPK.out, hf, s, by rw [← e]; exact hp, srt_of hs ((HRN.out s hp).1 hf).2, ha⟩)
  have KEEP : ∀ wr, Below ((w.alloc (.cells #[.int .i64 (fan : Int), .int .i64 mb, .int .i64 keep] 70)).alloc (.cells #[.int .i64 now] 3)).heap.size ((w.alloc (.cells #[.int .i64 (fan : Int), .int .i64 mb, .int .i64 keep] 70)).alloc (.cells #[.int .i64 now] 3)) wr → (wr.cell? ⟨w.heap.size, 0, none⟩ = some (.int .i64 (fan : Int)) ∧ wr.cell? ⟨w.heap.size, 1, none⟩ = some (.int .i64 mb) ∧ wr.cell? ⟨w.heap.size, 2, none⟩ = some (.int .i64 keep)) ∧ wr.cell? ⟨w.heap.size + 1, 0, none⟩ = some (.int .i64 now) := fun wr hw => by
    have h := (Tch.of_below hw (S := fun _ => False)).row r1 (fun h => h)
    have h2 := (Tch.of_below hw (S := fun _ => False)).row r2 (fun h => h)
    exact ⟨⟨held_cell h rfl, held_cell h rfl, held_cell h rfl⟩, held_cell h2 rfl⟩
  clear r1 r2
  generalize hW2 : ((w.alloc (.cells #[.int .i64 (fan : Int), .int .i64 mb, .int .i64 keep] 70)).alloc (.cells #[.int .i64 now] 3)) = W2 at *
  have hT : ∀ w3, Below W2.heap.size W2 w3 → Calls Try.prog 44 #[.slice A l.length c, .func (.func 48) #[] #[.pointer (some ⟨w.heap.size, 0, none⟩), .pointer (some ⟨w.heap.size + 1, 0, none⟩)]] w3 (MetsOut w3 (thoseM l (fun x => !overM keep now x))) := fun w3 h3 =>
    thoseP_is _ l keep now w.heap.size (w.heap.size + 1) w3 (hR.below (b2.trans (h3.mono b2.size))) hlen hwf (KEEP w3 h3).1.2.2 (KEEP w3 h3).2 hn
  clear hwf hR
  generalize thoseM l (fun x => !overM keep now x) = q at *
  obtain ⟨⟨k0, k1, k2⟩, k3⟩ := KEEP W2 (Below.refl _ _)
  have AFT : ∀ w3, Below W2.heap.size W2 w3 → ∀ u w4, KMet.Own w4 w3.heap.size u q → Below w3.heap.size w3 w4 → Calls Try.prog 49 #[u, .func (.func 50) #[] #[]] w4 fun e w' => e = .returned (.tuple #[]) ∧ ∃ d : List MV, d.Perm q ∧ d.Pairwise (fun x y => ¬ ltM y x) ∧ KMet.Rd w' u d ∧ Below W2.heap.size W2 w' := fun w3 h3 u w4 o4 b4 =>
    (Sort_is (o4.mono h3.size) (by omega) (Nat.le_trans h3.size b4.size)).mono (fun e w' ⟨he, d, h1, h2, h5, h6⟩ => ⟨he, d, h1, h2, h5, (h3.trans (b4.mono h3.size)).trans h6⟩)
  go_enter Try.func33, Try.ntmps33
  go_wp2_with (first
    | (go_at_call 47; go_loud (refine (hP _).mono ?_; rintro e w3 ⟨rfl, b3⟩; have hT3 := hT _ b3; clear hP hT k0 k1 k2 k3))
    | (go_at_call 44; go_loud (refine hT3.mono ?_; rintro e w4 ⟨u4, rfl, o4, b4⟩; have hS4 := AFT _ b3 u4 _ o4 b4; obtain ⟨A4, c4, rfl, _⟩ := o4.rd.form; clear AFT hT3))
    | (go_at_call 49; go_loud (refine hS4.mono ?_; rintro e w5 ⟨rfl, d, hpm, hsd, hrd, b5⟩; clear hS4)))
  obtain ⟨_, _, hsb⟩ := HRN.out d hpm
  have hdl : d.length ≤ 1099511627776 := by rw [hpm.length_eq]; omega
  have hRn := fun lv w6 (hw : Below w5.heap.size w5 w6) => run_is _ d fan mb keep lv w6 (hrd.below hw) hdl hmb (by omega) (by omega) hsb
  have HE := hid (HEND.out d hpm hsd)
  have hId := fun u s w7 (h : KMet.Rd w7 u s) (hs : s.length ≤ 1099511627776) => ids_is u s w7 h hs
  have HRL : Hid (∀ lv a, RunA d fan mb lv a → a.length ≤ 1099511627776) := hid (fun lv a h => by
    rcases h with ⟨i, h1, _, _, rfl⟩ | ⟨_, rfl⟩
    · rw [winM_len h1]; omega
    · simp)
  obtain ⟨A5, c5, e5, _⟩ := hrd.form
  injection e5 with e5 e6 e7
  subst e5 e7
  clear e6 hrd hsb hpm hsd HRN HEND hl2
  clear hW2 hn
  have KW := hid KEEP
  clear KEEP
  have bw5 := b2.trans (b5.mono b2.size)
  go_loopw [18] (fun iv wr => ∃ lv : Nat, iv = .int .i64 lv ∧ lv ≤ 20 ∧ Hid (∀ lv' : Nat, lv' < lv → ∀ i : Nat, i + fan ≤ d.length → ¬ goodM d fan mb lv' i) ∧ Below w5.heap.size w5 wr) (fun iv _ => 20 - (intOf iv).toNat)
  case atStart => exact ⟨0, rfl, by omega, hid (fun lv' h => by omega), Below.refl _ _⟩
  case round =>
    obtain ⟨lv, rfl, hlv, HG, hbw⟩ := hrel
    by_cases hlt : lv < 20
    · have hlI : (lv : Int) < 20 := by omega
      obtain ⟨⟨k0, k1, k2⟩, _⟩ := KW.out wr (b5.trans (hbw.mono b5.size))
      have hR6 := hRn lv wr hbw
      have HL := hid hlt
      unfold rulesV at hR6
      have AF : ∀ u a w7, RunA d fan mb lv a → KMet.Rd w7 u a → Below wr.heap.size wr w7 → (∃ A7 c7, u = .slice A7 a.length c7) ∧ (a ≠ [] → Hid (PackOf l fan mb keep now a) ∧ Calls Try.prog 43 #[u] w7 (IntsOut w7 (idsM a))) ∧ Hid (a = [] → ∀ lv' : Nat, lv' < lv + 1 → ∀ i : Nat, i + fan ≤ d.length → ¬ goodM d fan mb lv' i) ∧ Below w5.heap.size w5 w7 := fun u a w7 ha hr7 b7 => by
        obtain ⟨A7, c7, e7, _⟩ := hr7.form
        refine ⟨⟨A7, c7, e7⟩, fun hne => ⟨hid (HE.out a (PackA.of_run HL.out HG.out ha hne)), hId u a w7 hr7 (HRL.out lv a ha)⟩, hid (fun he lv' hl' => ?_), hbw.trans (b7.mono hbw.size)⟩
        by_cases e : lv' = lv
        · subst e; exact RunA.none (by omega) ha he
        · exact HG.out lv' (by omega)
      clear hRn HG
      go_wp2_with (go_at_call 51; go_loud (refine hR6.mono ?_; rintro e w7 ⟨u, a, rfl, ha, hr7, b7⟩; obtain ⟨⟨A7, c7, rfl⟩, hY, HZ, b8⟩ := AF u a w7 ha hr7 b7; clear AF hR6 hr7 ha; have H0 := hid (Nat.eq_zero_or_pos a.length)))
      · have hne : a ≠ [] := fun h => by
          have : a.length = 0 := by rw [h]; rfl
          omega
        obtain ⟨HO, hI⟩ := hY hne
        have b58 := bw5.trans (b8.mono bw5.size)
        refine hI.mono ?_
        rintro e w8 ⟨u8, rfl, o8, b9⟩
        go_wp2
        go_ret
        exact ⟨a, HO.out, _, rfl, o8.mono b58.size, b58.trans (b9.mono b58.size)⟩
      · have ha0 : a = [] := List.eq_nil_of_length_eq_zero (by omega)
        go_roundw
        case rel => exact ⟨lv + 1, by go_num, HL.out, hid (HZ.out ha0), b8⟩
        case measure => have := HL.out; simp [intOf]; omega
    · obtain rfl : lv = 20 := by omega
      have HO : Hid (PackOf l fan mb keep now []) := hid (HE.out [] (.inr ⟨fun lv' i hl hi => HG.out lv' hl i hi, rfl⟩))
      clear HG hRn
      go_wp2
      go_ret
      exact ⟨[], HO.out, _, rfl, Kd.Own.nil _ _, bw5.trans (hbw.mono bw5.size)⟩
set_option maxRecDepth 100000 in
set_option maxHeartbeats 4000000 in
theorem Pack_is (v : Value) (l : List MV) (f mb keep now : Int) (w : World) (hR : KMet.Rd w v l) (hlen : l.length ≤ 1099511627776) (hwf : ∀ x ∈ l, wfI x.id) (hn : now ≤ 9223372036854775807) :
    Calls Try.prog 33 #[v, rulesV f mb keep, .int .i64 now] w fun e w' => ∃ a, PackOf l f mb keep now a ∧ IntsOut w (idsM a) e w' := by
  cases hpk : packsM f mb keep with
  | false =>
    have hP := fun w1 => packs_is f mb keep w1
    have HO : Hid (PackOf l f mb keep now []) := hid (.inl ⟨.inl hpk, rfl⟩)
    rw [hpk] at hP
    have b2 : ∀ o o2, Below w.heap.size w ((w.alloc o).alloc o2) := fun o o2 => ((Below.refl _ w).alloc (Nat.le_refl _) _).alloc (by simp) _
    clear hpk hR
    unfold rulesV at hP ⊢
    go_enter Try.func33, Try.ntmps33
    go_wp2_with (go_at_call 47; refine (hP _).mono ?_; rintro e w3 ⟨rfl, b3⟩)
    go_ret
    exact ⟨[], HO.out, _, rfl, Kd.Own.nil _ _, (b2 _ _).trans (b3.mono (b2 _ _).size)⟩
  | true =>
    have hpk2 := hpk
    unfold packsM at hpk2
    rw [decide_eq_true_eq] at hpk2
    obtain ⟨fan, rfl⟩ := Int.eq_ofNat_of_zero_le (show 0 ≤ f by omega)
    exact Pack_yes v l fan mb keep now w hR hlen hwf hn hpk
end Go.Proofs.Ytddbmibpnahmnaa
