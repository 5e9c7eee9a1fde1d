/-
  What the reference's Before and Sort of entries answer: the entries, ordered. Conditions: the entries can be read; sizes as the theorem names.
-/
import Derived.Test.YtcffagfkpkfgbaaMliW
import Derived.Test.YtcffagfkpkfgbaaMpx
import Derived.Deep.RegionHeld3
import Derived.Deep.RegionLaw
namespace Go.Icz
open Go.RowKit
/-- The second is the first, ordered. -/
def StO (L O : List EV) : Prop := O.Pairwise (leq kyV false) ∧ O.Perm L
def SrtOut (X : List EV) (w : World) (e : Ending) (w' : World) : Prop := ∃ u M, e = .returned u ∧ KEnt.Own w' w.heap.size u M ∧ StO X M ∧ Below w.heap.size w w'
theorem ins_stable {L O : List EV} {x : EV} {k : Nat} (h : StO L O) (hk : k ≤ O.length) (h1 : ∀ j (hj : j < O.length), k ≤ j → bef kyV x O[j] = true) (h2 : ∀ (_h0 : 0 < k) (hj : k - 1 < O.length), bef kyV x O[k - 1] = false) :
    StO (L ++ [x]) (O.take k ++ x :: O.drop k) := by
  have e : O.take k ++ x :: O.drop k = O.take k ++ [x] ++ O.drop k := by simp
  rw [e]
  exact ⟨ins_sorted kyV h.1 hk h1 h2, ins_perm k h.2⟩
theorem farV {w w' : World} {row : Option Nat} (hg : w.grownBy w' row) {b off n c : Nat} {m : List EV} (h : KEnt.Rd w (.slice (some ⟨b, off, none⟩) n c) m) (hb : some b ≠ row) : KEnt.Rd w' (.slice (some ⟨b, off, none⟩) n c) m := by
  obtain ⟨A, c', hv, hc, hr⟩ := h
  refine ⟨A, c', hv, hc, fun h0 => ?_⟩
  obtain ⟨b', off', hA, hlt, hcell⟩ := hr h0
  subst hA
  injection hv with e1 e2 e3
  injection e1 with e1
  injection e1 with e1 e4
  subst e1
  exact ⟨b, off', rfl, Nat.lt_of_lt_of_le hlt hg.size, fun j u hu => (hg.cell_far ⟨b, off' + j, none⟩ hlt hb).trans (hcell j u hu)⟩
theorem oneV (w : World) (x : EV) (n : Nat) (hn : w.heap.size = n) : KEnt.Rd (w.alloc (.cells #[.int .i64 x.1.seq, .int .i64 x.1.time, .slice x.2.1 x.1.labs.length x.2.2, .string ⟨x.1.line.toArray⟩] 34)) (.slice (some ⟨n, 0, none⟩) 1 1) [x] := by
  subst hn
  exact (Kd.Own.lit (K := KEnt) w (B := 0) [x] (by simp [maxLen]) (Nat.zero_le _)).rd
theorem madeV (w : World) {B : Nat} (hB : B ≤ w.heap.size) : KEnt.Own (w.alloc (.cells #[] 34)) B (.slice (some ⟨w.heap.size, 0, none⟩) 0 0) [] :=
  Kd.Own.lit (K := KEnt) w [] (by simp) hB
theorem partV {w : World} {A : Option Addr} {n c : Nat} {l : List EV} (h : KEnt.Rd w (.slice A n c) l) (lo hi : Nat) (h1 : lo ≤ hi) (h2 : hi ≤ l.length) : KEnt.Rd w (sliced A lo hi c 4) ((l.drop lo).take (hi - lo)) := h.part lo hi h1 h2
theorem RdV4 {w : World} {v : Value} {X : List EV} (h : KEnt.Rd w v X) : ∃ A c, v = .slice A X.length c ∧ X.length ≤ c ∧ (0 < X.length → ∃ b off, A = some ⟨b, off, none⟩ ∧ b < w.heap.size ∧ ∀ j (hj : j < X.length), w.cell? ⟨b, off + j * 4, none⟩ = some (.int .i64 (X[j]).1.seq) ∧ w.cell? ⟨b, off + j * 4 + 1, none⟩ = some (.int .i64 (X[j]).1.time) ∧ w.cell? ⟨b, off + j * 4 + 2, none⟩ = some (.slice (X[j]).2.1 (X[j]).1.labs.length (X[j]).2.2) ∧ w.cell? ⟨b, off + j * 4 + 3, none⟩ = some (.string ⟨(X[j]).1.line.toArray⟩)) := by
  obtain ⟨A, c, rfl, hc⟩ := h.form
  refine ⟨A, c, rfl, hc, fun h0 => ?_⟩
  obtain ⟨b, off, hA, hb, _⟩ := h.at h0
  subst hA
  refine ⟨b, off, rfl, hb, fun j hj => ?_⟩
  obtain ⟨b', off', hA', _, c0, c1, c2, c3⟩ := Go.Proofs.Ytcffagfkpkfgbaa.Rd4 h hj
  injection hA' with hA'
  injection hA' with e1 e2
  subst e1 e2
  exact ⟨c0, c1, c2, c3⟩
end Go.Icz
namespace Go.Proofs.Ytcffagfkpkfgbaa
open Go.RowKit Go.Icz
theorem takeAt {P : Program} {ops : Array Oper} {Q : Exit → Act → World → Prop} {md : Region.Mode} {S : World → Prop} {i : Nat} {d : Tmp} {oi : Oper} {v : Value} {fuel : Nat} {listed : Array Bool} {a : Act} {w : World} (hi : ops[i]? = some oi) (hd : oi.dst = some d)
    (hs : Region.noSelect ops = true) (hf : Region.free md ops listed i = true) (hr : (Region.ready md ops listed).contains i = true)
    (hQ : ∀ c a w, Q (.panic c) (a.put oi.dst v) w → Q (.panic c) a w) (hy : YieldsIf P ops S oi v a) (hS : S w)
    (h : wpAnyH P md ops Q S fuel (listed.setIfInBounds i true) { tmps := a.tmps.setIfInBounds d v, defers := a.defers } w) : wpAnyH P md ops Q S (fuel + 1) listed a w := by
  refine wpAnyH_take hi hs hf hr hQ hy hS ?_
  rw [hd]
  exact h
theorem step_appV {ops : Array Oper} {o : Oper} {a : Act} {K : Act → World → Prop} {Q : Exit → Act → World → Prop} {E : Prop} {w : World} (hgd : o.guard = none) (s x : Operand)
    (ho : o.op = .call { callee := .builtin .append, args := #[s, x], argTypes := #[22, 22] })
    (B : Nat) (v u : Value) (l m : List EV) (hs : a.eval s = v) (hown : KEnt.Own w B v l) (hx : a.eval x = u) (hr : KEnt.Rd w u m)
    (hlen : (l.length + m.length) * 56 ≤ 140737488355328) (hB : B ≤ w.heap.size)
    (h : ∀ v' w', KEnt.Own w' B v' (l ++ m) → Below B w w' → w.grownBy w' v.ownBlock → True → K (a.put o.dst v') w') :
    if Region.wanted o (yielded ops a.tmps) = true then Oper.wp Try.prog o a w K Q else E := by
  obtain ⟨v', w', hrun, h1, h2⟩ := Kd.run_app (K := KEnt) (P := Try.prog) 22 o.type Try.underlying22 infoE rfl B v u l m hown hr (by unfold maxLen; omega) hlen hB
  exact step_run_app hgd s x 22 ho v u v' w' hs hx hrun (h v' w' h1 ((Below.refl B w).grown h2 hB (fun k hk => (hown.lt k hk).1)) h2 trivial)
set_option maxRecDepth 100000 in
theorem run_topV {A : Option Addr} {n c hi : Nat} (h2 : hi ≤ c) (wx : World) : (Instr.slice 22 (.slice A n c) none (some (.int .i64 (hi : Int))) none).run Try.prog wx = .ok (sliced A 0 hi c 4) wx := by
  have := run_slice_h (P := Try.prog) (w := wx) 22 A n c Try.underlying22 .i64 (hi : Int) (by omega) (by omega)
  rw [this]
  have hz : (sizeOf (Try.prog.elem 22)).run Try.prog wx = .ok 4 wx := by go_simp
  rw [hz]
  simp [Result.andThen]
set_option maxRecDepth 100000 in
theorem run_fromV {A : Option Addr} {n c s : Nat} (h : s ≤ n) (wx : World) : (Instr.slice 22 (.slice A n c) (some (.int .i64 (s : Int))) none none).run Try.prog wx = .ok (sliced A s n c 4) wx := by
  have := run_slice_l (P := Try.prog) (w := wx) 22 A n c Try.underlying22 .i64 (s : Int) (by omega) (by omega)
  rw [this]
  have hz : (sizeOf (Try.prog.elem 22)).run Try.prog wx = .ok 4 wx := by go_simp
  rw [hz]
  simp [Result.andThen]
set_option maxHeartbeats 1000000 in
set_option maxRecDepth 100000 in
theorem R3Before_is (x y : EV) (W : World) : Calls Try.prog 14 #[.agg #[.int .i64 x.1.seq, .int .i64 x.1.time, .slice x.2.1 x.1.labs.length x.2.2, .string ⟨x.1.line.toArray⟩], .agg #[.int .i64 y.1.seq, .int .i64 y.1.time, .slice y.2.1 y.1.labs.length y.2.2, .string ⟨y.1.line.toArray⟩]] W fun e w' => e = .returned (.bool (bef kyV x y)) ∧ Below W.heap.size W w' := by
  obtain ⟨⟨xs, xt, xl, xi⟩, A, c⟩ := x
  obtain ⟨⟨ys, yt, yl, yi⟩, A', c'⟩ := y
  have hv : bef kyV (⟨xs, xt, xl, xi⟩, A, c) (⟨ys, yt, yl, yi⟩, A', c') = (decide (xt < yt) || (xt == yt && decide (xs < ys))) := by
    unfold bef kyV kyE
    simp only []
    congr 1
  rw [hv]
  have hb : Below W.heap.size W ((W.alloc (.cells #[.int .i64 xs, .int .i64 xt, .slice A xl.length c, .string ⟨xi.toArray⟩] 34)).alloc (.cells #[.int .i64 ys, .int .i64 yt, .slice A' yl.length c', .string ⟨yi.toArray⟩] 34)) := ((Below.refl _ W).alloc (Nat.le_refl _) _).alloc (by simp) _
  clear hv
  simp only at *
  by_cases h1 : xt < yt
  · go_enter Try.func14, Try.ntmps14
    go_wp2_with fail
    go_ret
    simp [h1, hb]
  · by_cases h3 : xt = yt
    · subst h3
      have h3' : (xt == xt) = true := by simp
      by_cases h4 : xs < ys
      · go_enter Try.func14, Try.ntmps14
        go_wp2_with fail
        go_ret
        exact ⟨by simp, hb⟩
      · go_enter Try.func14, Try.ntmps14
        go_wp2_with fail
        go_ret
        exact ⟨by simp [h4], hb⟩
    · have h3' : (xt == yt) = false := by simp [h3]
      go_enter Try.func14, Try.ntmps14
      go_wp2_with fail
      go_ret
      simp [h1, hb]
set_option maxHeartbeats 8000000 in
set_option maxRecDepth 100000 in
theorem R3Sort_is (v : Value) (X : List EV) (w : World) (hR : KEnt.Rd w v X) (hlen : X.length ≤ 1099511627776) :
    Calls Try.prog 7 #[v] w (SrtOut X w) := by
  obtain ⟨N, hn⟩ : ∃ N, N = X.length := ⟨_, rfl⟩
  obtain ⟨A, c, rfl, hlc, hcell⟩ := RdV4 hR
  have HNX := hid hn
  have hn60 : N * 56 ≤ 140737488351232 := by omega
  clear hR
  rw [← hn] at hlc ⊢
  have hcell : 0 < N → _ := fun h => hcell (by rw [← hn]; exact h)
  clear hn hlen
  go_enter Try.func7, Try.ntmps7
  go_wp2_with fail
  go_loopw [3, 4] (fun ov iv wr => ∃ (i : Nat) (O : List EV), iv = .int .i64 i ∧ i ≤ N ∧ KEnt.Own wr w.heap.size ov O ∧ Hid (O.length = i) ∧ Hid (StO (X.take i) O) ∧ O.length ≤ N ∧ Below w.heap.size w wr) (fun _ iv _ => N - (intOf iv).toNat)
  case atStart => exact ⟨0, [], rfl, by omega, Kd.Own.nil _ _, hid rfl, hid ⟨.nil, .refl _⟩, by simp, Below.refl _ _⟩
  case round =>
    obtain ⟨i, O, rfl, hi, ho, HOL, HS, hON, hbw⟩ := hrel
    by_cases hlt : i < N
    · have hlt' : (i : Int) < (N : Int) := by omega
      have hiX : i < X.length := by have := HNX.out; omega
      obtain ⟨b, off, rfl, hb, hcl⟩ := hcell (by omega)
      have hcl := hcl i hiX
      have HTK : Hid (X.take (i + 1) = X.take i ++ [X[i]]) := hid (List.take_succ_eq_append_getElem hiX)
      have hON1 : O.length + 1 ≤ N := by have := HOL.out; omega
      generalize X[i] = x at *
      clear hcell hiX
      have KX : ∀ w', Below wr.heap.size wr w' → w'.cell? ⟨b, off + i * 4, none⟩ = some (.int .i64 x.1.seq) ∧ w'.cell? ⟨b, off + i * 4 + 1, none⟩ = some (.int .i64 x.1.time) ∧ w'.cell? ⟨b, off + i * 4 + 2, none⟩ = some (.slice x.2.1 x.1.labs.length x.2.2) ∧ w'.cell? ⟨b, off + i * 4 + 3, none⟩ = some (.string ⟨x.1.line.toArray⟩) := fun w' h => by
        have hbb := hbw.trans (h.mono hbw.size)
        exact ⟨(hbb.cell (p := ⟨b, off + i * 4, none⟩) hb).trans hcl.1, (hbb.cell (p := ⟨b, off + i * 4 + 1, none⟩) hb).trans hcl.2.1, (hbb.cell (p := ⟨b, off + i * 4 + 2, none⟩) hb).trans hcl.2.2.1, (hbb.cell (p := ⟨b, off + i * 4 + 3, none⟩) hb).trans hcl.2.2.2⟩
      have hbz := Nat.lt_of_lt_of_le hb hbw.size
      have ho2 := ho.rd
      obtain ⟨AO, co, rfl, hoc, hocell⟩ := RdV4 ho2
      have FIN0 : Hid (∀ k, k ≤ O.length → (∀ j (hj : j < O.length), k ≤ j → bef kyV x O[j] = true) → (∀ (_h0 : 0 < k) (hj : k - 1 < O.length), bef kyV x O[k - 1] = false) →
          Hid ((O.take k ++ x :: O.drop k).length = i + 1) ∧ Hid (StO (X.take (i + 1)) (O.take k ++ x :: O.drop k)) ∧ (O.take k ++ x :: O.drop k).length ≤ N) := hid (fun k hk h1 h2 => by
        have e1 : (O.take k ++ x :: O.drop k).length = i + 1 := by
          have := HOL.out
          rw [List.length_append, List.length_cons, List.length_take, List.length_drop]
          omega
        exact ⟨hid e1, hid (by rw [HTK.out]; exact ins_stable HS.out hk h1 h2), by rw [e1]; omega⟩)
      clear hcl HS HOL HTK ho
      generalize wr = wo at *
      go_wp2_with fail
      go_loopw [5] (fun kv ws => ∃ k : Nat, kv = .int .i64 (k : Int) ∧ k ≤ O.length ∧ Below wo.heap.size wo ws ∧ Hid (∀ j (hj : j < O.length), k ≤ j → bef kyV x O[j] = true)) (fun kv _ => (intOf kv).toNat)
      case atStart => exact ⟨O.length, rfl, by omega, Below.refl _ _, hid (fun j hj h => by omega)⟩
      case round =>
        obtain ⟨k, rfl, hk, hbs, HK⟩ := hrel
        by_cases hk0 : k = 0
        · have FIN := hid (FIN0.out k hk HK.out (fun h => absurd h (by omega)))
          subst hk0
          clear HK FIN0
          go_wp2_with fail
          refine wp_region_held_drew (S := fun _ => True) (by kernel_rfl) trivial (fun hHeld => ?_)
          refine takeAt (i := 0) (d := 14) (v := .int .i64 0) rfl rfl (by kernel_rfl) (by kernel_rfl) (by kernel_rfl) (fun _ _ _ h => h) (Or.inl ⟨by rfl, fun w hSw => by go_simp⟩) hHeld ?_
          simp only [List.setIfInBounds_toArray, List.set_cons_zero, List.set_cons_succ]
          refine takeAt (i := 1) (d := 15) (v := .bool false) rfl rfl (by kernel_rfl) (by kernel_rfl) (by kernel_rfl) (fun _ _ _ h => h) (Or.inl ⟨by rfl, fun w hSw => by go_simp⟩) hHeld ?_
          simp only [List.setIfInBounds_toArray, List.set_cons_zero, List.set_cons_succ]
          refine takeAt (i := 2) (d := 16) (v := .bool false) rfl rfl (by kernel_rfl) (by kernel_rfl) (by kernel_rfl) (fun _ _ _ h => h) (Or.inl ⟨by rfl, fun w hSw => by go_simp⟩) hHeld ?_
          simp only [List.setIfInBounds_toArray, List.set_cons_zero, List.set_cons_succ]
          refine takeAt (i := 3) (d := 17) (v := undef) rfl rfl (by kernel_rfl) (by kernel_rfl) (by kernel_rfl) (fun _ _ _ h => h) (Or.inr ⟨by rfl, rfl⟩) hHeld ?_
          simp only [List.setIfInBounds_toArray, List.set_cons_zero, List.set_cons_succ]
          refine takeAt (i := 4) (d := 18) (v := undef) rfl rfl (by kernel_rfl) (by kernel_rfl) (by kernel_rfl) (fun _ _ _ h => h) (Or.inr ⟨by rfl, rfl⟩) hHeld ?_
          simp only [List.setIfInBounds_toArray, List.set_cons_zero, List.set_cons_succ]
          refine takeAt (i := 5) (d := 19) (v := undef) rfl rfl (by kernel_rfl) (by kernel_rfl) (by kernel_rfl) (fun _ _ _ h => h) (Or.inr ⟨by rfl, rfl⟩) hHeld ?_
          simp only [List.setIfInBounds_toArray, List.set_cons_zero, List.set_cons_succ]
          refine takeAt (i := 6) (d := 20) (v := undef) rfl rfl (by kernel_rfl) (by kernel_rfl) (by kernel_rfl) (fun _ _ _ h => h) (Or.inr ⟨by rfl, rfl⟩) hHeld ?_
          simp only [List.setIfInBounds_toArray, List.set_cons_zero, List.set_cons_succ]
          refine takeAt (i := 7) (d := 21) (v := undef) rfl rfl (by kernel_rfl) (by kernel_rfl) (by kernel_rfl) (fun _ _ _ h => h) (Or.inr ⟨by rfl, rfl⟩) hHeld ?_
          simp only [List.setIfInBounds_toArray, List.set_cons_zero, List.set_cons_succ]
          refine takeAt (i := 8) (d := 22) (v := undef) rfl rfl (by kernel_rfl) (by kernel_rfl) (by kernel_rfl) (fun _ _ _ h => h) (Or.inr ⟨by rfl, rfl⟩) hHeld ?_
          simp only [List.setIfInBounds_toArray, List.set_cons_zero, List.set_cons_succ]
          refine takeAt (i := 9) (d := 23) (v := undef) rfl rfl (by kernel_rfl) (by kernel_rfl) (by kernel_rfl) (fun _ _ _ h => h) (Or.inr ⟨by rfl, rfl⟩) hHeld ?_
          simp only [List.setIfInBounds_toArray, List.set_cons_zero, List.set_cons_succ]
          refine takeAt (i := 10) (d := 24) (v := undef) rfl rfl (by kernel_rfl) (by kernel_rfl) (by kernel_rfl) (fun _ _ _ h => h) (Or.inr ⟨by rfl, rfl⟩) hHeld ?_
          simp only [List.setIfInBounds_toArray, List.set_cons_zero, List.set_cons_succ]
          refine takeAt (i := 11) (d := 25) (v := undef) rfl rfl (by kernel_rfl) (by kernel_rfl) (by kernel_rfl) (fun _ _ _ h => h) (Or.inr ⟨by rfl, rfl⟩) hHeld ?_
          simp only [List.setIfInBounds_toArray, List.set_cons_zero, List.set_cons_succ]
          refine takeAt (i := 12) (d := 26) (v := undef) rfl rfl (by kernel_rfl) (by kernel_rfl) (by kernel_rfl) (fun _ _ _ h => h) (Or.inr ⟨by rfl, rfl⟩) hHeld ?_
          simp only [List.setIfInBounds_toArray, List.set_cons_zero, List.set_cons_succ]
          refine takeAt (i := 13) (d := 27) (v := .bool false) rfl rfl (by kernel_rfl) (by kernel_rfl) (by kernel_rfl) (fun _ _ _ h => h) (Or.inl ⟨by rfl, fun w hSw => by go_simp⟩) hHeld ?_
          simp only [List.setIfInBounds_toArray, List.set_cons_zero, List.set_cons_succ]
          refine wpAnyH_done (by kernel_rfl) ?_ _
          go_wp2_with fail
          have hs1 : ∀ wx, (Instr.slice 22 (.slice AO O.length co) none (some (.int .i64 (0 : Int))) none).run Try.prog wx = .ok (sliced AO 0 0 co 4) wx := fun wx => run_topV (hi := 0) (by omega) wx
          have hs2 : ∀ wx, (Instr.slice 22 (.slice AO O.length co) (some (.int .i64 (0 : Int))) none none).run Try.prog wx = .ok (sliced AO 0 O.length co 4) wx := fun wx => run_fromV (s := 0) (by omega) wx
          have r1 := partV (ho2.below hbs) 0 0 (by omega) (by omega)
          have r2 := partV (ho2.below hbs) 0 O.length (by omega) (Nat.le_refl _)
          rw [Nat.sub_zero, List.drop_zero] at r1 r2
          rw [List.take_of_length_le (Nat.le_refl _)] at r2
          generalize sliced AO 0 0 co 4 = v1 at *
          generalize sliced AO 0 O.length co 4 = v2 at *
          obtain ⟨hx0, hx1, hx2, hx3⟩ := KX _ hbs
          have hbs3 := Nat.lt_of_lt_of_le hbz hbs.size
          have hbs0 := Nat.le_trans hbw.size hbs.size
          refine wp_region_held_drew (S := fun w' => Below wr.heap.size wr w') (by kernel_rfl) (Below.refl _ _).drew.drew (fun hHeld => ?_)
          refine takeAt (i := 1) (d := 31) (v := .slice AO O.length co) rfl rfl (by kernel_rfl) (by kernel_rfl) (by kernel_rfl) (fun _ _ _ h => h) (Or.inl ⟨by rfl, fun w hSw => by go_simp⟩) hHeld ?_
          simp only [List.setIfInBounds_toArray, List.set_cons_zero, List.set_cons_succ]
          refine takeAt (i := 2) (d := 32) (v := .int .i64 0) rfl rfl (by kernel_rfl) (by kernel_rfl) (by kernel_rfl) (fun _ _ _ h => h) (Or.inl ⟨by rfl, fun w hSw => by go_simp⟩) hHeld ?_
          simp only [List.setIfInBounds_toArray, List.set_cons_zero, List.set_cons_succ]
          refine takeAt (i := 3) (d := 33) (v := v1) rfl rfl (by kernel_rfl) (by kernel_rfl) (by kernel_rfl) (fun _ _ _ h => h) (Or.inl ⟨by rfl, fun w hSw => by go_simp⟩) hHeld ?_
          simp only [List.setIfInBounds_toArray, List.set_cons_zero, List.set_cons_succ]
          refine takeAt (i := 5) (d := 35) (v := .slice (some ⟨b, off, none⟩) N c) rfl rfl (by kernel_rfl) (by kernel_rfl) (by kernel_rfl) (fun _ _ _ h => h) (Or.inl ⟨by rfl, fun w hSw => by go_simp⟩) hHeld ?_
          simp only [List.setIfInBounds_toArray, List.set_cons_zero, List.set_cons_succ]
          refine takeAt (i := 6) (d := 36) (v := .int .i64 (i : Int)) rfl rfl (by kernel_rfl) (by kernel_rfl) (by kernel_rfl) (fun _ _ _ h => h) (Or.inl ⟨by rfl, fun w hSw => by go_simp⟩) hHeld ?_
          simp only [List.setIfInBounds_toArray, List.set_cons_zero, List.set_cons_succ]
          refine takeAt (i := 7) (d := 37) (v := .pointer (some ⟨b, off + i * 4, none⟩)) rfl rfl (by kernel_rfl) (by kernel_rfl) (by kernel_rfl) (fun _ _ _ h => h) (Or.inl ⟨by rfl, fun w hSw => by go_simp⟩) hHeld ?_
          simp only [List.setIfInBounds_toArray, List.set_cons_zero, List.set_cons_succ]
          refine takeAt (i := 8) (d := 38) (v := .agg #[.int .i64 x.1.seq, .int .i64 x.1.time, .slice x.2.1 x.1.labs.length x.2.2, .string ⟨x.1.line.toArray⟩]) rfl rfl (by kernel_rfl) (by kernel_rfl) (by kernel_rfl) (fun _ _ _ h => h) (Or.inl ⟨by rfl, fun w hSw => by have g0 := (hSw.cell (p := ⟨b, off + i * 4, none⟩) hbs3).trans hx0; have g1 := (hSw.cell (p := ⟨b, off + i * 4 + 1, none⟩) hbs3).trans hx1; have g2 := (hSw.cell (p := ⟨b, off + i * 4 + 2, none⟩) hbs3).trans hx2; have g3 := (hSw.cell (p := ⟨b, off + i * 4 + 3, none⟩) hbs3).trans hx3; go_simp⟩) hHeld ?_
          simp only [List.setIfInBounds_toArray, List.set_cons_zero, List.set_cons_succ]
          refine takeAt (i := 11) (d := 41) (v := .slice AO O.length co) rfl rfl (by kernel_rfl) (by kernel_rfl) (by kernel_rfl) (fun _ _ _ h => h) (Or.inl ⟨by rfl, fun w hSw => by go_simp⟩) hHeld ?_
          simp only [List.setIfInBounds_toArray, List.set_cons_zero, List.set_cons_succ]
          refine takeAt (i := 12) (d := 42) (v := .int .i64 0) rfl rfl (by kernel_rfl) (by kernel_rfl) (by kernel_rfl) (fun _ _ _ h => h) (Or.inl ⟨by rfl, fun w hSw => by go_simp⟩) hHeld ?_
          simp only [List.setIfInBounds_toArray, List.set_cons_zero, List.set_cons_succ]
          refine takeAt (i := 13) (d := 43) (v := v2) rfl rfl (by kernel_rfl) (by kernel_rfl) (by kernel_rfl) (fun _ _ _ h => h) (Or.inl ⟨by rfl, fun w hSw => by go_simp⟩) hHeld ?_
          simp only [List.setIfInBounds_toArray, List.set_cons_zero, List.set_cons_succ]
          refine wpAnyH_ready (rs := [0, 9]) (by kernel_rfl) (by simp) ?_
          refine (AllReadyH.cons (o := { dst := some 30, op := Go.Op.buildSlice 22 0 #[], type := 22, pos := "ref.go:115", after := #[], guard := none }) rfl (fun K hK => ?_) (AllReadyH.cons (o := { dst := some 39, op := Go.Op.buildSlice 22 1 #[(0, Go.Operand.tmp 38)], type := 22, pos := "ref.go:115", after := #[{ on := 8, ground := Go.Ground.data }], guard := none }) rfl (fun K hK => ?_) AllReadyH.nil))
          · rw [if_pos (by rfl)]
            go_simp
            refine hK.out _ _ (hHeld.alloc (hHeld.size) _) (fun hHeld1 => ?_)
            clear hK K
            refine wpAnyH_ready (rs := [4, 9]) (by kernel_rfl) (by simp) ?_
            refine (AllReadyH.cons (o := { dst := some 34, op := Go.Op.call { callee := Go.Callee.builtin Go.Builtin.append, args := #[Go.Operand.tmp 30, Go.Operand.tmp 33], argTypes := #[22, 22] }, type := 22, pos := "ref.go:115", after := #[{ on := 0, ground := Go.Ground.data }, { on := 3, ground := Go.Ground.data }], guard := none }) rfl (fun K hK => ?_) (AllReadyH.cons (o := { dst := some 39, op := Go.Op.buildSlice 22 1 #[(0, Go.Operand.tmp 38)], type := 22, pos := "ref.go:115", after := #[{ on := 8, ground := Go.Ground.data }], guard := none }) rfl (fun K hK => ?_) AllReadyH.nil))
            · refine step_appV rfl (.tmp 30) (.tmp 33) rfl wr.heap.size _ _ [] (O.take 0) (by simp [Act.eval]) (madeV wr.drew.drew (Nat.le_refl _)) (by simp [Act.eval]) (r1.below hHeld1) (by first | (simp; done) | (simp; omega)) hHeld1.size ?_
              intro v3 w3 o3 b3 g3 _
              refine hK.out _ _ (hHeld1.trans b3) (fun hHeld2 => ?_)
              clear hK K
              simp only [Act.put, List.setIfInBounds_toArray, List.set_cons_zero, List.set_cons_succ]
              refine wpAnyH_ready (rs := [9]) (by kernel_rfl) (by simp) ?_
              refine (AllReadyH.cons (o := { dst := some 39, op := Go.Op.buildSlice 22 1 #[(0, Go.Operand.tmp 38)], type := 22, pos := "ref.go:115", after := #[{ on := 8, ground := Go.Ground.data }], guard := none }) rfl (fun K hK => ?_) AllReadyH.nil)
              rw [if_pos (by rfl)]
              go_simp
              refine hK.out _ _ (hHeld2.alloc (hHeld2.size) _) (fun hHeld3 => ?_)
              clear hK K
              refine wpAnyH_ready (rs := [10]) (by kernel_rfl) (by simp) ?_
              refine (AllReadyH.cons (o := { dst := some 40, op := Go.Op.call { callee := Go.Callee.builtin Go.Builtin.append, args := #[Go.Operand.tmp 34, Go.Operand.tmp 39], argTypes := #[22, 22] }, type := 22, pos := "ref.go:115", after := #[{ on := 4, ground := Go.Ground.data }, { on := 9, ground := Go.Ground.data }, { on := 4, ground := Go.Ground.chain }], guard := none }) rfl (fun K hK => ?_) AllReadyH.nil)
              refine step_appV rfl (.tmp 34) (.tmp 39) rfl wr.heap.size _ _ _ [x] (by simp [Act.eval]) (o3.alloc _) (by simp [Act.eval]) (oneV w3 x _ rfl) (by first | (simp; done) | (simp; omega)) hHeld3.size ?_
              intro v4 w4 o4 b4 g4 _
              refine hK.out _ _ (hHeld3.trans b4) (fun hHeldX => ?_)
              clear hK K
              simp only [Act.put, List.setIfInBounds_toArray, List.set_cons_zero, List.set_cons_succ]
              refine wpAnyH_ready (rs := [14]) (by kernel_rfl) (by simp) ?_
              refine (AllReadyH.cons (o := { dst := some 44, op := Go.Op.call { callee := Go.Callee.builtin Go.Builtin.append, args := #[Go.Operand.tmp 40, Go.Operand.tmp 43], argTypes := #[22, 22] }, type := 22, pos := "ref.go:115", after := #[{ on := 10, ground := Go.Ground.data }, { on := 13, ground := Go.Ground.data }, { on := 10, ground := Go.Ground.chain }], guard := none }) rfl (fun K hK => ?_) AllReadyH.nil)
              refine step_appV rfl (.tmp 40) (.tmp 43) rfl wr.heap.size _ _ _ (O.drop 0) (by simp [Act.eval]) o4 (by simp [Act.eval]) (r2.below hHeldX) (by first | (simp; done) | (simp; omega)) hHeldX.size ?_
              intro v5 w5 o5 b5 g5 _
              refine hK.out _ _ (hHeldX.trans b5) (fun hHeldY => ?_)
              clear hK K
              simp only [Act.put, List.setIfInBounds_toArray, List.set_cons_zero, List.set_cons_succ]
              refine takeAt (i := 15) (d := 3) (v := v5) rfl rfl (by kernel_rfl) (by kernel_rfl) (by kernel_rfl) (fun _ _ _ h => h) (Or.inl ⟨by rfl, fun w hSw => by go_simp⟩) hHeldY ?_
              simp only [List.setIfInBounds_toArray, List.set_cons_zero, List.set_cons_succ]
              refine wpAnyH_done (by kernel_rfl) ?_ _
              go_wp2
              go_roundw
              case rel => exact ⟨i + 1, O.take 0 ++ x :: O.drop 0, by go_num, by omega, by have := o5.mono hbs0; simpa using this, FIN.out.1, FIN.out.2.1, FIN.out.2.2, hbw.trans ((hbs.trans (hHeldY.mono hbs.size)).mono hbw.size)⟩
              case measure => first | (simp [intOf]; done) | (simp [intOf]; omega)
            · rw [if_pos (by rfl)]
              go_simp
              refine hK.out _ _ (hHeld1.alloc (hHeld1.size) _) (fun hHeld2 => ?_)
              clear hK K
              refine wpAnyH_ready (rs := [4]) (by kernel_rfl) (by simp) ?_
              refine (AllReadyH.cons (o := { dst := some 34, op := Go.Op.call { callee := Go.Callee.builtin Go.Builtin.append, args := #[Go.Operand.tmp 30, Go.Operand.tmp 33], argTypes := #[22, 22] }, type := 22, pos := "ref.go:115", after := #[{ on := 0, ground := Go.Ground.data }, { on := 3, ground := Go.Ground.data }], guard := none }) rfl (fun K hK => ?_) AllReadyH.nil)
              refine step_appV rfl (.tmp 30) (.tmp 33) rfl wr.heap.size _ _ [] (O.take 0) (by simp [Act.eval]) ((madeV wr.drew.drew (Nat.le_refl _)).alloc _) (by simp [Act.eval]) (r1.below hHeld2) (by first | (simp; done) | (simp; omega)) hHeld2.size ?_
              intro v3 w3 o3 b3 g3 _
              refine hK.out _ _ (hHeld2.trans b3) (fun hHeld3 => ?_)
              clear hK K
              simp only [Act.put, List.setIfInBounds_toArray, List.set_cons_zero, List.set_cons_succ]
              refine wpAnyH_ready (rs := [10]) (by kernel_rfl) (by simp) ?_
              refine (AllReadyH.cons (o := { dst := some 40, op := Go.Op.call { callee := Go.Callee.builtin Go.Builtin.append, args := #[Go.Operand.tmp 34, Go.Operand.tmp 39], argTypes := #[22, 22] }, type := 22, pos := "ref.go:115", after := #[{ on := 4, ground := Go.Ground.data }, { on := 9, ground := Go.Ground.data }, { on := 4, ground := Go.Ground.chain }], guard := none }) rfl (fun K hK => ?_) AllReadyH.nil)
              refine step_appV rfl (.tmp 34) (.tmp 39) rfl wr.heap.size _ _ _ [x] (by simp [Act.eval]) o3 (by simp [Act.eval]) (farV g3 (oneV (wr.drew.drew.alloc (.cells #[] 34)) x _ rfl) (by simp [Value.ownBlock])) (by first | (simp; done) | (simp; omega)) hHeld3.size ?_
              intro v4 w4 o4 b4 g4 _
              refine hK.out _ _ (hHeld3.trans b4) (fun hHeldX => ?_)
              clear hK K
              simp only [Act.put, List.setIfInBounds_toArray, List.set_cons_zero, List.set_cons_succ]
              refine wpAnyH_ready (rs := [14]) (by kernel_rfl) (by simp) ?_
              refine (AllReadyH.cons (o := { dst := some 44, op := Go.Op.call { callee := Go.Callee.builtin Go.Builtin.append, args := #[Go.Operand.tmp 40, Go.Operand.tmp 43], argTypes := #[22, 22] }, type := 22, pos := "ref.go:115", after := #[{ on := 10, ground := Go.Ground.data }, { on := 13, ground := Go.Ground.data }, { on := 10, ground := Go.Ground.chain }], guard := none }) rfl (fun K hK => ?_) AllReadyH.nil)
              refine step_appV rfl (.tmp 40) (.tmp 43) rfl wr.heap.size _ _ _ (O.drop 0) (by simp [Act.eval]) o4 (by simp [Act.eval]) (r2.below hHeldX) (by first | (simp; done) | (simp; omega)) hHeldX.size ?_
              intro v5 w5 o5 b5 g5 _
              refine hK.out _ _ (hHeldX.trans b5) (fun hHeldY => ?_)
              clear hK K
              simp only [Act.put, List.setIfInBounds_toArray, List.set_cons_zero, List.set_cons_succ]
              refine takeAt (i := 15) (d := 3) (v := v5) rfl rfl (by kernel_rfl) (by kernel_rfl) (by kernel_rfl) (fun _ _ _ h => h) (Or.inl ⟨by rfl, fun w hSw => by go_simp⟩) hHeldY ?_
              simp only [List.setIfInBounds_toArray, List.set_cons_zero, List.set_cons_succ]
              refine wpAnyH_done (by kernel_rfl) ?_ _
              go_wp2
              go_roundw
              case rel => exact ⟨i + 1, O.take 0 ++ x :: O.drop 0, by go_num, by omega, by have := o5.mono hbs0; simpa using this, FIN.out.1, FIN.out.2.1, FIN.out.2.2, hbw.trans ((hbs.trans (hHeldY.mono hbs.size)).mono hbw.size)⟩
              case measure => first | (simp [intOf]; done) | (simp [intOf]; omega)
          · rw [if_pos (by rfl)]
            go_simp
            refine hK.out _ _ (hHeld.alloc (hHeld.size) _) (fun hHeld1 => ?_)
            clear hK K
            refine wpAnyH_ready (rs := [0]) (by kernel_rfl) (by simp) ?_
            refine (AllReadyH.cons (o := { dst := some 30, op := Go.Op.buildSlice 22 0 #[], type := 22, pos := "ref.go:115", after := #[], guard := none }) rfl (fun K hK => ?_) AllReadyH.nil)
            rw [if_pos (by rfl)]
            go_simp
            refine hK.out _ _ (hHeld1.alloc (hHeld1.size) _) (fun hHeld2 => ?_)
            clear hK K
            refine wpAnyH_ready (rs := [4]) (by kernel_rfl) (by simp) ?_
            refine (AllReadyH.cons (o := { dst := some 34, op := Go.Op.call { callee := Go.Callee.builtin Go.Builtin.append, args := #[Go.Operand.tmp 30, Go.Operand.tmp 33], argTypes := #[22, 22] }, type := 22, pos := "ref.go:115", after := #[{ on := 0, ground := Go.Ground.data }, { on := 3, ground := Go.Ground.data }], guard := none }) rfl (fun K hK => ?_) AllReadyH.nil)
            refine step_appV rfl (.tmp 30) (.tmp 33) rfl wr.heap.size _ _ [] (O.take 0) (by simp [Act.eval]) (madeV _ hHeld1.size) (by simp [Act.eval]) (r1.below hHeld2) (by first | (simp; done) | (simp; omega)) hHeld2.size ?_
            intro v3 w3 o3 b3 g3 _
            refine hK.out _ _ (hHeld2.trans b3) (fun hHeld3 => ?_)
            clear hK K
            simp only [Act.put, List.setIfInBounds_toArray, List.set_cons_zero, List.set_cons_succ]
            refine wpAnyH_ready (rs := [10]) (by kernel_rfl) (by simp) ?_
            refine (AllReadyH.cons (o := { dst := some 40, op := Go.Op.call { callee := Go.Callee.builtin Go.Builtin.append, args := #[Go.Operand.tmp 34, Go.Operand.tmp 39], argTypes := #[22, 22] }, type := 22, pos := "ref.go:115", after := #[{ on := 4, ground := Go.Ground.data }, { on := 9, ground := Go.Ground.data }, { on := 4, ground := Go.Ground.chain }], guard := none }) rfl (fun K hK => ?_) AllReadyH.nil)
            refine step_appV rfl (.tmp 34) (.tmp 39) rfl wr.heap.size _ _ _ [x] (by simp [Act.eval]) o3 (by simp [Act.eval]) (farV g3 ((oneV wr.drew.drew x _ rfl).below ((Below.refl _ _).alloc (Nat.le_refl _) _)) (by simp [Value.ownBlock])) (by first | (simp; done) | (simp; omega)) hHeld3.size ?_
            intro v4 w4 o4 b4 g4 _
            refine hK.out _ _ (hHeld3.trans b4) (fun hHeldX => ?_)
            clear hK K
            simp only [Act.put, List.setIfInBounds_toArray, List.set_cons_zero, List.set_cons_succ]
            refine wpAnyH_ready (rs := [14]) (by kernel_rfl) (by simp) ?_
            refine (AllReadyH.cons (o := { dst := some 44, op := Go.Op.call { callee := Go.Callee.builtin Go.Builtin.append, args := #[Go.Operand.tmp 40, Go.Operand.tmp 43], argTypes := #[22, 22] }, type := 22, pos := "ref.go:115", after := #[{ on := 10, ground := Go.Ground.data }, { on := 13, ground := Go.Ground.data }, { on := 10, ground := Go.Ground.chain }], guard := none }) rfl (fun K hK => ?_) AllReadyH.nil)
            refine step_appV rfl (.tmp 40) (.tmp 43) rfl wr.heap.size _ _ _ (O.drop 0) (by simp [Act.eval]) o4 (by simp [Act.eval]) (r2.below hHeldX) (by first | (simp; done) | (simp; omega)) hHeldX.size ?_
            intro v5 w5 o5 b5 g5 _
            refine hK.out _ _ (hHeldX.trans b5) (fun hHeldY => ?_)
            clear hK K
            simp only [Act.put, List.setIfInBounds_toArray, List.set_cons_zero, List.set_cons_succ]
            refine takeAt (i := 15) (d := 3) (v := v5) rfl rfl (by kernel_rfl) (by kernel_rfl) (by kernel_rfl) (fun _ _ _ h => h) (Or.inl ⟨by rfl, fun w hSw => by go_simp⟩) hHeldY ?_
            simp only [List.setIfInBounds_toArray, List.set_cons_zero, List.set_cons_succ]
            refine wpAnyH_done (by kernel_rfl) ?_ _
            go_wp2
            go_roundw
            case rel => exact ⟨i + 1, O.take 0 ++ x :: O.drop 0, by go_num, by omega, by have := o5.mono hbs0; simpa using this, FIN.out.1, FIN.out.2.1, FIN.out.2.2, hbw.trans ((hbs.trans (hHeldY.mono hbs.size)).mono hbw.size)⟩
            case measure => first | (simp [intOf]; done) | (simp [intOf]; omega)
        · have hk0' : (0 : Int) < (k : Int) := by omega
          have hkd : decide ((0 : Int) < (k : Int)) = true := decide_eq_true hk0'
          obtain ⟨j, hj⟩ : ∃ j, k = j + 1 := ⟨k - 1, by omega⟩
          obtain ⟨g, og, rfl, hg, hgc⟩ := hocell (by omega)
          have hjl : j < O.length := by omega
          have KY : ∀ w', Below wo.heap.size wo w' → w'.cell? ⟨g, og + j * 4, none⟩ = some (.int .i64 (O[j]).1.seq) ∧ w'.cell? ⟨g, og + j * 4 + 1, none⟩ = some (.int .i64 (O[j]).1.time) ∧ w'.cell? ⟨g, og + j * 4 + 2, none⟩ = some (.slice (O[j]).2.1 (O[j]).1.labs.length (O[j]).2.2) ∧ w'.cell? ⟨g, og + j * 4 + 3, none⟩ = some (.string ⟨(O[j]).1.line.toArray⟩) := fun w' h => ⟨(h.cell (p := ⟨g, og + j * 4, none⟩) hg).trans (hgc j hjl).1, (h.cell (p := ⟨g, og + j * 4 + 1, none⟩) hg).trans (hgc j hjl).2.1, (h.cell (p := ⟨g, og + j * 4 + 2, none⟩) hg).trans (hgc j hjl).2.2.1, (h.cell (p := ⟨g, og + j * 4 + 3, none⟩) hg).trans (hgc j hjl).2.2.2⟩
          have HT : Hid (bef kyV x O[j] = true → ∀ q (hq : q < O.length), j ≤ q → bef kyV x O[q] = true) := hid (fun h q hq hjq => by
            rcases Nat.lt_or_ge q k with h4 | h4
            · have h6 : q = j := by omega
              subst h6; exact h
            · exact HK.out q hq h4)
          have HFN : Hid (bef kyV x O[j] = false → Hid ((O.take k ++ x :: O.drop k).length = i + 1) ∧ Hid (StO (X.take (i + 1)) (O.take k ++ x :: O.drop k)) ∧ (O.take k ++ x :: O.drop k).length ≤ N) := hid (fun h => FIN0.out k hk HK.out (fun _ hq => by
            subst hj
            simpa using h))
          have zk : (k : Int) - 1 = (j : Int) := by omega
          have zk0 : (0 : Int) ≤ (j : Int) := by omega
          have zkl : (j : Int) < (O.length : Int) := by omega
          have zw : IntKind.i64.wrap (j : Int) = (j : Int) := by rw [IntKind.wrap_i64]; omega
          have zw2 : IntKind.i64.wrap ((k : Int) - 1) = (j : Int) := by rw [IntKind.wrap_i64]; omega
          have HJ := hid hj
          clear HK FIN0 hgc hocell hj
          generalize O[j] = y at *
          clear hjl
          have HBf := fun w1 => R3Before_is x y w1
          skip
          have hk1 : Below wo.heap.size wo wr.drew := ⟨hbs.os, hbs.tape, hbs.output, hbs.size, hbs.block⟩
          have mkS : ∀ w', Below wo.heap.size wo w' → Below wo.heap.size wo w' ∧ w'.cell? ⟨b, off + i * 4, none⟩ = some (.int .i64 x.1.seq) ∧ w'.cell? ⟨b, off + i * 4 + 1, none⟩ = some (.int .i64 x.1.time) ∧ w'.cell? ⟨b, off + i * 4 + 2, none⟩ = some (.slice x.2.1 x.1.labs.length x.2.2) ∧ w'.cell? ⟨b, off + i * 4 + 3, none⟩ = some (.string ⟨x.1.line.toArray⟩) ∧ w'.cell? ⟨g, og + j * 4, none⟩ = some (.int .i64 y.1.seq) ∧ w'.cell? ⟨g, og + j * 4 + 1, none⟩ = some (.int .i64 y.1.time) ∧ w'.cell? ⟨g, og + j * 4 + 2, none⟩ = some (.slice y.2.1 y.1.labs.length y.2.2) ∧ w'.cell? ⟨g, og + j * 4 + 3, none⟩ = some (.string ⟨y.1.line.toArray⟩) := fun w' h => ⟨h, (KX _ h).1, (KX _ h).2.1, (KX _ h).2.2.1, (KX _ h).2.2.2, (KY _ h).1, (KY _ h).2.1, (KY _ h).2.2.1, (KY _ h).2.2.2⟩
          have hk9 := mkS wr.drew hk1
          cases hB : bef kyV x y with
          | true =>
            rw [hB] at HBf
            have HT2 := hid (HT.out hB)
            clear HT HFN hB
            go_wp2_with fail
            refine wp_region_held_drew (S := fun w' => Below wo.heap.size wo w' ∧ w'.cell? ⟨b, off + i * 4, none⟩ = some (.int .i64 x.1.seq) ∧ w'.cell? ⟨b, off + i * 4 + 1, none⟩ = some (.int .i64 x.1.time) ∧ w'.cell? ⟨b, off + i * 4 + 2, none⟩ = some (.slice x.2.1 x.1.labs.length x.2.2) ∧ w'.cell? ⟨b, off + i * 4 + 3, none⟩ = some (.string ⟨x.1.line.toArray⟩) ∧ w'.cell? ⟨g, og + j * 4, none⟩ = some (.int .i64 y.1.seq) ∧ w'.cell? ⟨g, og + j * 4 + 1, none⟩ = some (.int .i64 y.1.time) ∧ w'.cell? ⟨g, og + j * 4 + 2, none⟩ = some (.slice y.2.1 y.1.labs.length y.2.2) ∧ w'.cell? ⟨g, og + j * 4 + 3, none⟩ = some (.string ⟨y.1.line.toArray⟩)) (by kernel_rfl) hk9 (fun hHeld => ?_)
            refine takeAt (i := 0) (d := 14) (v := .int .i64 (k : Int)) rfl rfl (by kernel_rfl) (by kernel_rfl) (by kernel_rfl) (fun _ _ _ h => h) (Or.inl ⟨by rfl, fun w hSw => by obtain ⟨hS0, hS1, hS2, hS3, hS4, hS5, hS6, hS7, hS8⟩ := hSw; go_simp⟩) hHeld ?_
            simp only [List.setIfInBounds_toArray, List.set_cons_zero, List.set_cons_succ]
            refine takeAt (i := 1) (d := 15) (v := .bool true) rfl rfl (by kernel_rfl) (by kernel_rfl) (by kernel_rfl) (fun _ _ _ h => h) (Or.inl ⟨by rfl, fun w hSw => by obtain ⟨hS0, hS1, hS2, hS3, hS4, hS5, hS6, hS7, hS8⟩ := hSw; go_simp; omega⟩) hHeld ?_
            simp only [List.setIfInBounds_toArray, List.set_cons_zero, List.set_cons_succ]
            refine takeAt (i := 2) (d := 16) (v := .bool true) rfl rfl (by kernel_rfl) (by kernel_rfl) (by kernel_rfl) (fun _ _ _ h => h) (Or.inl ⟨by rfl, fun w hSw => by obtain ⟨hS0, hS1, hS2, hS3, hS4, hS5, hS6, hS7, hS8⟩ := hSw; go_simp⟩) hHeld ?_
            simp only [List.setIfInBounds_toArray, List.set_cons_zero, List.set_cons_succ]
            refine takeAt (i := 3) (d := 17) (v := .slice (some ⟨b, off, none⟩) N c) rfl rfl (by kernel_rfl) (by kernel_rfl) (by kernel_rfl) (fun _ _ _ h => h) (Or.inl ⟨by rfl, fun w hSw => by obtain ⟨hS0, hS1, hS2, hS3, hS4, hS5, hS6, hS7, hS8⟩ := hSw; go_simp⟩) hHeld ?_
            simp only [List.setIfInBounds_toArray, List.set_cons_zero, List.set_cons_succ]
            refine takeAt (i := 4) (d := 18) (v := .int .i64 (i : Int)) rfl rfl (by kernel_rfl) (by kernel_rfl) (by kernel_rfl) (fun _ _ _ h => h) (Or.inl ⟨by rfl, fun w hSw => by obtain ⟨hS0, hS1, hS2, hS3, hS4, hS5, hS6, hS7, hS8⟩ := hSw; go_simp⟩) hHeld ?_
            simp only [List.setIfInBounds_toArray, List.set_cons_zero, List.set_cons_succ]
            refine takeAt (i := 5) (d := 19) (v := .pointer (some ⟨b, off + i * 4, none⟩)) rfl rfl (by kernel_rfl) (by kernel_rfl) (by kernel_rfl) (fun _ _ _ h => h) (Or.inl ⟨by rfl, fun w hSw => by obtain ⟨hS0, hS1, hS2, hS3, hS4, hS5, hS6, hS7, hS8⟩ := hSw; go_simp⟩) hHeld ?_
            simp only [List.setIfInBounds_toArray, List.set_cons_zero, List.set_cons_succ]
            refine takeAt (i := 6) (d := 20) (v := .agg #[.int .i64 x.1.seq, .int .i64 x.1.time, .slice x.2.1 x.1.labs.length x.2.2, .string ⟨x.1.line.toArray⟩]) rfl rfl (by kernel_rfl) (by kernel_rfl) (by kernel_rfl) (fun _ _ _ h => h) (Or.inl ⟨by rfl, fun w hSw => by obtain ⟨hS0, hS1, hS2, hS3, hS4, hS5, hS6, hS7, hS8⟩ := hSw; go_simp⟩) hHeld ?_
            simp only [List.setIfInBounds_toArray, List.set_cons_zero, List.set_cons_succ]
            refine takeAt (i := 7) (d := 21) (v := .slice (some ⟨g, og, none⟩) O.length co) rfl rfl (by kernel_rfl) (by kernel_rfl) (by kernel_rfl) (fun _ _ _ h => h) (Or.inl ⟨by rfl, fun w hSw => by obtain ⟨hS0, hS1, hS2, hS3, hS4, hS5, hS6, hS7, hS8⟩ := hSw; go_simp⟩) hHeld ?_
            simp only [List.setIfInBounds_toArray, List.set_cons_zero, List.set_cons_succ]
            refine takeAt (i := 8) (d := 22) (v := .int .i64 (k : Int)) rfl rfl (by kernel_rfl) (by kernel_rfl) (by kernel_rfl) (fun _ _ _ h => h) (Or.inl ⟨by rfl, fun w hSw => by obtain ⟨hS0, hS1, hS2, hS3, hS4, hS5, hS6, hS7, hS8⟩ := hSw; go_simp⟩) hHeld ?_
            simp only [List.setIfInBounds_toArray, List.set_cons_zero, List.set_cons_succ]
            refine takeAt (i := 9) (d := 23) (v := .int .i64 (j : Int)) rfl rfl (by kernel_rfl) (by kernel_rfl) (by kernel_rfl) (fun _ _ _ h => h) (Or.inl ⟨by rfl, fun w hSw => by obtain ⟨hS0, hS1, hS2, hS3, hS4, hS5, hS6, hS7, hS8⟩ := hSw; go_simp⟩) hHeld ?_
            simp only [List.setIfInBounds_toArray, List.set_cons_zero, List.set_cons_succ]
            refine takeAt (i := 10) (d := 24) (v := .pointer (some ⟨g, og + j * 4, none⟩)) rfl rfl (by kernel_rfl) (by kernel_rfl) (by kernel_rfl) (fun _ _ _ h => h) (Or.inl ⟨by rfl, fun w hSw => by obtain ⟨hS0, hS1, hS2, hS3, hS4, hS5, hS6, hS7, hS8⟩ := hSw; go_simp⟩) hHeld ?_
            simp only [List.setIfInBounds_toArray, List.set_cons_zero, List.set_cons_succ]
            refine takeAt (i := 11) (d := 25) (v := .agg #[.int .i64 y.1.seq, .int .i64 y.1.time, .slice y.2.1 y.1.labs.length y.2.2, .string ⟨y.1.line.toArray⟩]) rfl rfl (by kernel_rfl) (by kernel_rfl) (by kernel_rfl) (fun _ _ _ h => h) (Or.inl ⟨by rfl, fun w hSw => by obtain ⟨hS0, hS1, hS2, hS3, hS4, hS5, hS6, hS7, hS8⟩ := hSw; go_simp⟩) hHeld ?_
            simp only [List.setIfInBounds_toArray, List.set_cons_zero, List.set_cons_succ]
            refine wpAnyH_ready (rs := [12]) (by kernel_rfl) (by simp) ?_
            refine AllReadyH.cons (o := { dst := some 26, op := Go.Op.call { callee := Go.Callee.value (Go.Operand.func 14), args := #[Go.Operand.tmp 20, Go.Operand.tmp 25], argTypes := #[34, 34] }, type := 4, pos := "ref.go:112", after := #[{ on := 6, ground := Go.Ground.data }, { on := 11, ground := Go.Ground.data }, { on := 2, ground := Go.Ground.chain }, { on := 2, ground := Go.Ground.guard }], guard := some (2, true) }) rfl (fun K hK => ?_) AllReadyH.nil
            rw [if_pos (by rfl)]
            go_simp
            refine (HBf _).mono ?_
            rintro e w1 ⟨rfl, b1⟩
            refine hK.out _ _ (mkS _ (hk9.1.trans (b1.mono hk9.1.size))) (fun hHeld2 => ?_)
            clear hK K
            try simp only [Act.put, List.setIfInBounds_toArray, List.set_cons_zero, List.set_cons_succ]
            refine takeAt (i := 13) (d := 27) (v := .bool true) rfl rfl (by kernel_rfl) (by kernel_rfl) (by kernel_rfl) (fun _ _ _ h => h) (Or.inl ⟨by rfl, fun w hSw => by obtain ⟨hS0, hS1, hS2, hS3, hS4, hS5, hS6, hS7, hS8⟩ := hSw; go_simp⟩) hHeld2 ?_
            simp only [List.setIfInBounds_toArray, List.set_cons_zero, List.set_cons_succ]
            refine wpAnyH_done (by kernel_rfl) ?_ _
            have hw1 := hHeld2.1
            go_wp2_with fail
            go_roundw
            case rel => exact ⟨j, rfl, by have := HJ.out; omega, hw1, HT2⟩
            case measure => have := HJ.out; simp [intOf]; omega
          | false =>
            rw [hB] at HBf
            have FIN := hid (HFN.out hB)
            clear HT HFN hB
            go_wp2_with fail
            refine wp_region_held_drew (S := fun w' => Below wo.heap.size wo w' ∧ w'.cell? ⟨b, off + i * 4, none⟩ = some (.int .i64 x.1.seq) ∧ w'.cell? ⟨b, off + i * 4 + 1, none⟩ = some (.int .i64 x.1.time) ∧ w'.cell? ⟨b, off + i * 4 + 2, none⟩ = some (.slice x.2.1 x.1.labs.length x.2.2) ∧ w'.cell? ⟨b, off + i * 4 + 3, none⟩ = some (.string ⟨x.1.line.toArray⟩) ∧ w'.cell? ⟨g, og + j * 4, none⟩ = some (.int .i64 y.1.seq) ∧ w'.cell? ⟨g, og + j * 4 + 1, none⟩ = some (.int .i64 y.1.time) ∧ w'.cell? ⟨g, og + j * 4 + 2, none⟩ = some (.slice y.2.1 y.1.labs.length y.2.2) ∧ w'.cell? ⟨g, og + j * 4 + 3, none⟩ = some (.string ⟨y.1.line.toArray⟩)) (by kernel_rfl) hk9 (fun hHeld => ?_)
            refine takeAt (i := 0) (d := 14) (v := .int .i64 (k : Int)) rfl rfl (by kernel_rfl) (by kernel_rfl) (by kernel_rfl) (fun _ _ _ h => h) (Or.inl ⟨by rfl, fun w hSw => by obtain ⟨hS0, hS1, hS2, hS3, hS4, hS5, hS6, hS7, hS8⟩ := hSw; go_simp⟩) hHeld ?_
            simp only [List.setIfInBounds_toArray, List.set_cons_zero, List.set_cons_succ]
            refine takeAt (i := 1) (d := 15) (v := .bool true) rfl rfl (by kernel_rfl) (by kernel_rfl) (by kernel_rfl) (fun _ _ _ h => h) (Or.inl ⟨by rfl, fun w hSw => by obtain ⟨hS0, hS1, hS2, hS3, hS4, hS5, hS6, hS7, hS8⟩ := hSw; go_simp; omega⟩) hHeld ?_
            simp only [List.setIfInBounds_toArray, List.set_cons_zero, List.set_cons_succ]
            refine takeAt (i := 2) (d := 16) (v := .bool true) rfl rfl (by kernel_rfl) (by kernel_rfl) (by kernel_rfl) (fun _ _ _ h => h) (Or.inl ⟨by rfl, fun w hSw => by obtain ⟨hS0, hS1, hS2, hS3, hS4, hS5, hS6, hS7, hS8⟩ := hSw; go_simp⟩) hHeld ?_
            simp only [List.setIfInBounds_toArray, List.set_cons_zero, List.set_cons_succ]
            refine takeAt (i := 3) (d := 17) (v := .slice (some ⟨b, off, none⟩) N c) rfl rfl (by kernel_rfl) (by kernel_rfl) (by kernel_rfl) (fun _ _ _ h => h) (Or.inl ⟨by rfl, fun w hSw => by obtain ⟨hS0, hS1, hS2, hS3, hS4, hS5, hS6, hS7, hS8⟩ := hSw; go_simp⟩) hHeld ?_
            simp only [List.setIfInBounds_toArray, List.set_cons_zero, List.set_cons_succ]
            refine takeAt (i := 4) (d := 18) (v := .int .i64 (i : Int)) rfl rfl (by kernel_rfl) (by kernel_rfl) (by kernel_rfl) (fun _ _ _ h => h) (Or.inl ⟨by rfl, fun w hSw => by obtain ⟨hS0, hS1, hS2, hS3, hS4, hS5, hS6, hS7, hS8⟩ := hSw; go_simp⟩) hHeld ?_
            simp only [List.setIfInBounds_toArray, List.set_cons_zero, List.set_cons_succ]
            refine takeAt (i := 5) (d := 19) (v := .pointer (some ⟨b, off + i * 4, none⟩)) rfl rfl (by kernel_rfl) (by kernel_rfl) (by kernel_rfl) (fun _ _ _ h => h) (Or.inl ⟨by rfl, fun w hSw => by obtain ⟨hS0, hS1, hS2, hS3, hS4, hS5, hS6, hS7, hS8⟩ := hSw; go_simp⟩) hHeld ?_
            simp only [List.setIfInBounds_toArray, List.set_cons_zero, List.set_cons_succ]
            refine takeAt (i := 6) (d := 20) (v := .agg #[.int .i64 x.1.seq, .int .i64 x.1.time, .slice x.2.1 x.1.labs.length x.2.2, .string ⟨x.1.line.toArray⟩]) rfl rfl (by kernel_rfl) (by kernel_rfl) (by kernel_rfl) (fun _ _ _ h => h) (Or.inl ⟨by rfl, fun w hSw => by obtain ⟨hS0, hS1, hS2, hS3, hS4, hS5, hS6, hS7, hS8⟩ := hSw; go_simp⟩) hHeld ?_
            simp only [List.setIfInBounds_toArray, List.set_cons_zero, List.set_cons_succ]
            refine takeAt (i := 7) (d := 21) (v := .slice (some ⟨g, og, none⟩) O.length co) rfl rfl (by kernel_rfl) (by kernel_rfl) (by kernel_rfl) (fun _ _ _ h => h) (Or.inl ⟨by rfl, fun w hSw => by obtain ⟨hS0, hS1, hS2, hS3, hS4, hS5, hS6, hS7, hS8⟩ := hSw; go_simp⟩) hHeld ?_
            simp only [List.setIfInBounds_toArray, List.set_cons_zero, List.set_cons_succ]
            refine takeAt (i := 8) (d := 22) (v := .int .i64 (k : Int)) rfl rfl (by kernel_rfl) (by kernel_rfl) (by kernel_rfl) (fun _ _ _ h => h) (Or.inl ⟨by rfl, fun w hSw => by obtain ⟨hS0, hS1, hS2, hS3, hS4, hS5, hS6, hS7, hS8⟩ := hSw; go_simp⟩) hHeld ?_
            simp only [List.setIfInBounds_toArray, List.set_cons_zero, List.set_cons_succ]
            refine takeAt (i := 9) (d := 23) (v := .int .i64 (j : Int)) rfl rfl (by kernel_rfl) (by kernel_rfl) (by kernel_rfl) (fun _ _ _ h => h) (Or.inl ⟨by rfl, fun w hSw => by obtain ⟨hS0, hS1, hS2, hS3, hS4, hS5, hS6, hS7, hS8⟩ := hSw; go_simp⟩) hHeld ?_
            simp only [List.setIfInBounds_toArray, List.set_cons_zero, List.set_cons_succ]
            refine takeAt (i := 10) (d := 24) (v := .pointer (some ⟨g, og + j * 4, none⟩)) rfl rfl (by kernel_rfl) (by kernel_rfl) (by kernel_rfl) (fun _ _ _ h => h) (Or.inl ⟨by rfl, fun w hSw => by obtain ⟨hS0, hS1, hS2, hS3, hS4, hS5, hS6, hS7, hS8⟩ := hSw; go_simp⟩) hHeld ?_
            simp only [List.setIfInBounds_toArray, List.set_cons_zero, List.set_cons_succ]
            refine takeAt (i := 11) (d := 25) (v := .agg #[.int .i64 y.1.seq, .int .i64 y.1.time, .slice y.2.1 y.1.labs.length y.2.2, .string ⟨y.1.line.toArray⟩]) rfl rfl (by kernel_rfl) (by kernel_rfl) (by kernel_rfl) (fun _ _ _ h => h) (Or.inl ⟨by rfl, fun w hSw => by obtain ⟨hS0, hS1, hS2, hS3, hS4, hS5, hS6, hS7, hS8⟩ := hSw; go_simp⟩) hHeld ?_
            simp only [List.setIfInBounds_toArray, List.set_cons_zero, List.set_cons_succ]
            refine wpAnyH_ready (rs := [12]) (by kernel_rfl) (by simp) ?_
            refine AllReadyH.cons (o := { dst := some 26, op := Go.Op.call { callee := Go.Callee.value (Go.Operand.func 14), args := #[Go.Operand.tmp 20, Go.Operand.tmp 25], argTypes := #[34, 34] }, type := 4, pos := "ref.go:112", after := #[{ on := 6, ground := Go.Ground.data }, { on := 11, ground := Go.Ground.data }, { on := 2, ground := Go.Ground.chain }, { on := 2, ground := Go.Ground.guard }], guard := some (2, true) }) rfl (fun K hK => ?_) AllReadyH.nil
            rw [if_pos (by rfl)]
            go_simp
            refine (HBf _).mono ?_
            rintro e w1 ⟨rfl, b1⟩
            refine hK.out _ _ (mkS _ (hk9.1.trans (b1.mono hk9.1.size))) (fun hHeld2 => ?_)
            clear hK K
            try simp only [Act.put, List.setIfInBounds_toArray, List.set_cons_zero, List.set_cons_succ]
            refine takeAt (i := 13) (d := 27) (v := .bool false) rfl rfl (by kernel_rfl) (by kernel_rfl) (by kernel_rfl) (fun _ _ _ h => h) (Or.inl ⟨by rfl, fun w hSw => by obtain ⟨hS0, hS1, hS2, hS3, hS4, hS5, hS6, hS7, hS8⟩ := hSw; go_simp⟩) hHeld2 ?_
            simp only [List.setIfInBounds_toArray, List.set_cons_zero, List.set_cons_succ]
            refine wpAnyH_done (by kernel_rfl) ?_ _
            have hbs := hHeld2.1
            clear hHeld2 hk9 mkS hk1 HBf
            go_wp2_with fail
            have hs1 := fun wx => run_topV (A := (some ⟨g, og, none⟩)) (n := O.length) (c := co) (hi := k) (by omega) wx
            have hs2 := fun wx => run_fromV (A := (some ⟨g, og, none⟩)) (n := O.length) (c := co) (s := k) hk wx
            have r1 := partV (ho2.below hbs) 0 k (by omega) hk
            have r2 := partV (ho2.below hbs) k O.length hk (Nat.le_refl _)
            rw [Nat.sub_zero, List.drop_zero] at r1
            rw [List.take_of_length_le (by rw [List.length_drop]; exact Nat.le_refl _)] at r2
            generalize sliced (some ⟨g, og, none⟩) 0 k co 4 = v1 at *
            generalize sliced (some ⟨g, og, none⟩) k O.length co 4 = v2 at *
            obtain ⟨hx0, hx1, hx2, hx3⟩ := KX _ hbs
            have hbs3 := Nat.lt_of_lt_of_le hbz hbs.size
            have hbs0 := Nat.le_trans hbw.size hbs.size
            refine wp_region_held_drew (S := fun w' => Below w1.heap.size w1 w') (by kernel_rfl) (Below.refl _ _).drew (fun hHeld => ?_)
            refine takeAt (i := 1) (d := 31) (v := .slice (some ⟨g, og, none⟩) O.length co) rfl rfl (by kernel_rfl) (by kernel_rfl) (by kernel_rfl) (fun _ _ _ h => h) (Or.inl ⟨by rfl, fun w hSw => by go_simp⟩) hHeld ?_
            simp only [List.setIfInBounds_toArray, List.set_cons_zero, List.set_cons_succ]
            refine takeAt (i := 2) (d := 32) (v := .int .i64 (k : Int)) rfl rfl (by kernel_rfl) (by kernel_rfl) (by kernel_rfl) (fun _ _ _ h => h) (Or.inl ⟨by rfl, fun w hSw => by go_simp⟩) hHeld ?_
            simp only [List.setIfInBounds_toArray, List.set_cons_zero, List.set_cons_succ]
            refine takeAt (i := 3) (d := 33) (v := v1) rfl rfl (by kernel_rfl) (by kernel_rfl) (by kernel_rfl) (fun _ _ _ h => h) (Or.inl ⟨by rfl, fun w hSw => by go_simp⟩) hHeld ?_
            simp only [List.setIfInBounds_toArray, List.set_cons_zero, List.set_cons_succ]
            refine takeAt (i := 5) (d := 35) (v := .slice (some ⟨b, off, none⟩) N c) rfl rfl (by kernel_rfl) (by kernel_rfl) (by kernel_rfl) (fun _ _ _ h => h) (Or.inl ⟨by rfl, fun w hSw => by go_simp⟩) hHeld ?_
            simp only [List.setIfInBounds_toArray, List.set_cons_zero, List.set_cons_succ]
            refine takeAt (i := 6) (d := 36) (v := .int .i64 (i : Int)) rfl rfl (by kernel_rfl) (by kernel_rfl) (by kernel_rfl) (fun _ _ _ h => h) (Or.inl ⟨by rfl, fun w hSw => by go_simp⟩) hHeld ?_
            simp only [List.setIfInBounds_toArray, List.set_cons_zero, List.set_cons_succ]
            refine takeAt (i := 7) (d := 37) (v := .pointer (some ⟨b, off + i * 4, none⟩)) rfl rfl (by kernel_rfl) (by kernel_rfl) (by kernel_rfl) (fun _ _ _ h => h) (Or.inl ⟨by rfl, fun w hSw => by go_simp⟩) hHeld ?_
            simp only [List.setIfInBounds_toArray, List.set_cons_zero, List.set_cons_succ]
            refine takeAt (i := 8) (d := 38) (v := .agg #[.int .i64 x.1.seq, .int .i64 x.1.time, .slice x.2.1 x.1.labs.length x.2.2, .string ⟨x.1.line.toArray⟩]) rfl rfl (by kernel_rfl) (by kernel_rfl) (by kernel_rfl) (fun _ _ _ h => h) (Or.inl ⟨by rfl, fun w hSw => by have g0 := (hSw.cell (p := ⟨b, off + i * 4, none⟩) hbs3).trans hx0; have g1 := (hSw.cell (p := ⟨b, off + i * 4 + 1, none⟩) hbs3).trans hx1; have g2 := (hSw.cell (p := ⟨b, off + i * 4 + 2, none⟩) hbs3).trans hx2; have g3 := (hSw.cell (p := ⟨b, off + i * 4 + 3, none⟩) hbs3).trans hx3; go_simp⟩) hHeld ?_
            simp only [List.setIfInBounds_toArray, List.set_cons_zero, List.set_cons_succ]
            refine takeAt (i := 11) (d := 41) (v := .slice (some ⟨g, og, none⟩) O.length co) rfl rfl (by kernel_rfl) (by kernel_rfl) (by kernel_rfl) (fun _ _ _ h => h) (Or.inl ⟨by rfl, fun w hSw => by go_simp⟩) hHeld ?_
            simp only [List.setIfInBounds_toArray, List.set_cons_zero, List.set_cons_succ]
            refine takeAt (i := 12) (d := 42) (v := .int .i64 (k : Int)) rfl rfl (by kernel_rfl) (by kernel_rfl) (by kernel_rfl) (fun _ _ _ h => h) (Or.inl ⟨by rfl, fun w hSw => by go_simp⟩) hHeld ?_
            simp only [List.setIfInBounds_toArray, List.set_cons_zero, List.set_cons_succ]
            refine takeAt (i := 13) (d := 43) (v := v2) rfl rfl (by kernel_rfl) (by kernel_rfl) (by kernel_rfl) (fun _ _ _ h => h) (Or.inl ⟨by rfl, fun w hSw => by go_simp⟩) hHeld ?_
            simp only [List.setIfInBounds_toArray, List.set_cons_zero, List.set_cons_succ]
            refine wpAnyH_ready (rs := [0, 9]) (by kernel_rfl) (by simp) ?_
            refine (AllReadyH.cons (o := { dst := some 30, op := Go.Op.buildSlice 22 0 #[], type := 22, pos := "ref.go:115", after := #[], guard := none }) rfl (fun K hK => ?_) (AllReadyH.cons (o := { dst := some 39, op := Go.Op.buildSlice 22 1 #[(0, Go.Operand.tmp 38)], type := 22, pos := "ref.go:115", after := #[{ on := 8, ground := Go.Ground.data }], guard := none }) rfl (fun K hK => ?_) AllReadyH.nil))
            · rw [if_pos (by rfl)]
              go_simp
              refine hK.out _ _ (hHeld.alloc (hHeld.size) _) (fun hHeld1 => ?_)
              clear hK K
              refine wpAnyH_ready (rs := [4, 9]) (by kernel_rfl) (by simp) ?_
              refine (AllReadyH.cons (o := { dst := some 34, op := Go.Op.call { callee := Go.Callee.builtin Go.Builtin.append, args := #[Go.Operand.tmp 30, Go.Operand.tmp 33], argTypes := #[22, 22] }, type := 22, pos := "ref.go:115", after := #[{ on := 0, ground := Go.Ground.data }, { on := 3, ground := Go.Ground.data }], guard := none }) rfl (fun K hK => ?_) (AllReadyH.cons (o := { dst := some 39, op := Go.Op.buildSlice 22 1 #[(0, Go.Operand.tmp 38)], type := 22, pos := "ref.go:115", after := #[{ on := 8, ground := Go.Ground.data }], guard := none }) rfl (fun K hK => ?_) AllReadyH.nil))
              · refine step_appV rfl (.tmp 30) (.tmp 33) rfl w1.heap.size _ _ [] (O.take k) (by simp [Act.eval]) (madeV w1.drew (Nat.le_refl _)) (by simp [Act.eval]) (r1.below hHeld1) (by first | (simp; done) | (simp; omega)) hHeld1.size ?_
                intro v3 w3 o3 b3 g3 _
                refine hK.out _ _ (hHeld1.trans b3) (fun hHeld2 => ?_)
                clear hK K
                simp only [Act.put, List.setIfInBounds_toArray, List.set_cons_zero, List.set_cons_succ]
                refine wpAnyH_ready (rs := [9]) (by kernel_rfl) (by simp) ?_
                refine (AllReadyH.cons (o := { dst := some 39, op := Go.Op.buildSlice 22 1 #[(0, Go.Operand.tmp 38)], type := 22, pos := "ref.go:115", after := #[{ on := 8, ground := Go.Ground.data }], guard := none }) rfl (fun K hK => ?_) AllReadyH.nil)
                rw [if_pos (by rfl)]
                go_simp
                refine hK.out _ _ (hHeld2.alloc (hHeld2.size) _) (fun hHeld3 => ?_)
                clear hK K
                refine wpAnyH_ready (rs := [10]) (by kernel_rfl) (by simp) ?_
                refine (AllReadyH.cons (o := { dst := some 40, op := Go.Op.call { callee := Go.Callee.builtin Go.Builtin.append, args := #[Go.Operand.tmp 34, Go.Operand.tmp 39], argTypes := #[22, 22] }, type := 22, pos := "ref.go:115", after := #[{ on := 4, ground := Go.Ground.data }, { on := 9, ground := Go.Ground.data }, { on := 4, ground := Go.Ground.chain }], guard := none }) rfl (fun K hK => ?_) AllReadyH.nil)
                refine step_appV rfl (.tmp 34) (.tmp 39) rfl w1.heap.size _ _ _ [x] (by simp [Act.eval]) (o3.alloc _) (by simp [Act.eval]) (oneV w3 x _ rfl) (by first | (simp; done) | (simp; omega)) hHeld3.size ?_
                intro v4 w4 o4 b4 g4 _
                refine hK.out _ _ (hHeld3.trans b4) (fun hHeldX => ?_)
                clear hK K
                simp only [Act.put, List.setIfInBounds_toArray, List.set_cons_zero, List.set_cons_succ]
                refine wpAnyH_ready (rs := [14]) (by kernel_rfl) (by simp) ?_
                refine (AllReadyH.cons (o := { dst := some 44, op := Go.Op.call { callee := Go.Callee.builtin Go.Builtin.append, args := #[Go.Operand.tmp 40, Go.Operand.tmp 43], argTypes := #[22, 22] }, type := 22, pos := "ref.go:115", after := #[{ on := 10, ground := Go.Ground.data }, { on := 13, ground := Go.Ground.data }, { on := 10, ground := Go.Ground.chain }], guard := none }) rfl (fun K hK => ?_) AllReadyH.nil)
                refine step_appV rfl (.tmp 40) (.tmp 43) rfl w1.heap.size _ _ _ (O.drop k) (by simp [Act.eval]) o4 (by simp [Act.eval]) (r2.below hHeldX) (by first | (simp; done) | (simp; omega)) hHeldX.size ?_
                intro v5 w5 o5 b5 g5 _
                refine hK.out _ _ (hHeldX.trans b5) (fun hHeldY => ?_)
                clear hK K
                simp only [Act.put, List.setIfInBounds_toArray, List.set_cons_zero, List.set_cons_succ]
                refine takeAt (i := 15) (d := 3) (v := v5) rfl rfl (by kernel_rfl) (by kernel_rfl) (by kernel_rfl) (fun _ _ _ h => h) (Or.inl ⟨by rfl, fun w hSw => by go_simp⟩) hHeldY ?_
                simp only [List.setIfInBounds_toArray, List.set_cons_zero, List.set_cons_succ]
                refine wpAnyH_done (by kernel_rfl) ?_ _
                go_wp2
                go_roundw
                case rel => exact ⟨i + 1, O.take k ++ x :: O.drop k, by go_num, by omega, by have := o5.mono hbs0; simpa using this, FIN.out.1, FIN.out.2.1, FIN.out.2.2, hbw.trans ((hbs.trans (hHeldY.mono hbs.size)).mono hbw.size)⟩
                case measure => first | (simp [intOf]; done) | (simp [intOf]; omega)
              · rw [if_pos (by rfl)]
                go_simp
                refine hK.out _ _ (hHeld1.alloc (hHeld1.size) _) (fun hHeld2 => ?_)
                clear hK K
                refine wpAnyH_ready (rs := [4]) (by kernel_rfl) (by simp) ?_
                refine (AllReadyH.cons (o := { dst := some 34, op := Go.Op.call { callee := Go.Callee.builtin Go.Builtin.append, args := #[Go.Operand.tmp 30, Go.Operand.tmp 33], argTypes := #[22, 22] }, type := 22, pos := "ref.go:115", after := #[{ on := 0, ground := Go.Ground.data }, { on := 3, ground := Go.Ground.data }], guard := none }) rfl (fun K hK => ?_) AllReadyH.nil)
                refine step_appV rfl (.tmp 30) (.tmp 33) rfl w1.heap.size _ _ [] (O.take k) (by simp [Act.eval]) ((madeV w1.drew (Nat.le_refl _)).alloc _) (by simp [Act.eval]) (r1.below hHeld2) (by first | (simp; done) | (simp; omega)) hHeld2.size ?_
                intro v3 w3 o3 b3 g3 _
                refine hK.out _ _ (hHeld2.trans b3) (fun hHeld3 => ?_)
                clear hK K
                simp only [Act.put, List.setIfInBounds_toArray, List.set_cons_zero, List.set_cons_succ]
                refine wpAnyH_ready (rs := [10]) (by kernel_rfl) (by simp) ?_
                refine (AllReadyH.cons (o := { dst := some 40, op := Go.Op.call { callee := Go.Callee.builtin Go.Builtin.append, args := #[Go.Operand.tmp 34, Go.Operand.tmp 39], argTypes := #[22, 22] }, type := 22, pos := "ref.go:115", after := #[{ on := 4, ground := Go.Ground.data }, { on := 9, ground := Go.Ground.data }, { on := 4, ground := Go.Ground.chain }], guard := none }) rfl (fun K hK => ?_) AllReadyH.nil)
                refine step_appV rfl (.tmp 34) (.tmp 39) rfl w1.heap.size _ _ _ [x] (by simp [Act.eval]) o3 (by simp [Act.eval]) (farV g3 (oneV (w1.drew.alloc (.cells #[] 34)) x _ rfl) (by simp [Value.ownBlock])) (by first | (simp; done) | (simp; omega)) hHeld3.size ?_
                intro v4 w4 o4 b4 g4 _
                refine hK.out _ _ (hHeld3.trans b4) (fun hHeldX => ?_)
                clear hK K
                simp only [Act.put, List.setIfInBounds_toArray, List.set_cons_zero, List.set_cons_succ]
                refine wpAnyH_ready (rs := [14]) (by kernel_rfl) (by simp) ?_
                refine (AllReadyH.cons (o := { dst := some 44, op := Go.Op.call { callee := Go.Callee.builtin Go.Builtin.append, args := #[Go.Operand.tmp 40, Go.Operand.tmp 43], argTypes := #[22, 22] }, type := 22, pos := "ref.go:115", after := #[{ on := 10, ground := Go.Ground.data }, { on := 13, ground := Go.Ground.data }, { on := 10, ground := Go.Ground.chain }], guard := none }) rfl (fun K hK => ?_) AllReadyH.nil)
                refine step_appV rfl (.tmp 40) (.tmp 43) rfl w1.heap.size _ _ _ (O.drop k) (by simp [Act.eval]) o4 (by simp [Act.eval]) (r2.below hHeldX) (by first | (simp; done) | (simp; omega)) hHeldX.size ?_
                intro v5 w5 o5 b5 g5 _
                refine hK.out _ _ (hHeldX.trans b5) (fun hHeldY => ?_)
                clear hK K
                simp only [Act.put, List.setIfInBounds_toArray, List.set_cons_zero, List.set_cons_succ]
                refine takeAt (i := 15) (d := 3) (v := v5) rfl rfl (by kernel_rfl) (by kernel_rfl) (by kernel_rfl) (fun _ _ _ h => h) (Or.inl ⟨by rfl, fun w hSw => by go_simp⟩) hHeldY ?_
                simp only [List.setIfInBounds_toArray, List.set_cons_zero, List.set_cons_succ]
                refine wpAnyH_done (by kernel_rfl) ?_ _
                go_wp2
                go_roundw
                case rel => exact ⟨i + 1, O.take k ++ x :: O.drop k, by go_num, by omega, by have := o5.mono hbs0; simpa using this, FIN.out.1, FIN.out.2.1, FIN.out.2.2, hbw.trans ((hbs.trans (hHeldY.mono hbs.size)).mono hbw.size)⟩
                case measure => first | (simp [intOf]; done) | (simp [intOf]; omega)
            · rw [if_pos (by rfl)]
              go_simp
              refine hK.out _ _ (hHeld.alloc (hHeld.size) _) (fun hHeld1 => ?_)
              clear hK K
              refine wpAnyH_ready (rs := [0]) (by kernel_rfl) (by simp) ?_
              refine (AllReadyH.cons (o := { dst := some 30, op := Go.Op.buildSlice 22 0 #[], type := 22, pos := "ref.go:115", after := #[], guard := none }) rfl (fun K hK => ?_) AllReadyH.nil)
              rw [if_pos (by rfl)]
              go_simp
              refine hK.out _ _ (hHeld1.alloc (hHeld1.size) _) (fun hHeld2 => ?_)
              clear hK K
              refine wpAnyH_ready (rs := [4]) (by kernel_rfl) (by simp) ?_
              refine (AllReadyH.cons (o := { dst := some 34, op := Go.Op.call { callee := Go.Callee.builtin Go.Builtin.append, args := #[Go.Operand.tmp 30, Go.Operand.tmp 33], argTypes := #[22, 22] }, type := 22, pos := "ref.go:115", after := #[{ on := 0, ground := Go.Ground.data }, { on := 3, ground := Go.Ground.data }], guard := none }) rfl (fun K hK => ?_) AllReadyH.nil)
              refine step_appV rfl (.tmp 30) (.tmp 33) rfl w1.heap.size _ _ [] (O.take k) (by simp [Act.eval]) (madeV _ hHeld1.size) (by simp [Act.eval]) (r1.below hHeld2) (by first | (simp; done) | (simp; omega)) hHeld2.size ?_
              intro v3 w3 o3 b3 g3 _
              refine hK.out _ _ (hHeld2.trans b3) (fun hHeld3 => ?_)
              clear hK K
              simp only [Act.put, List.setIfInBounds_toArray, List.set_cons_zero, List.set_cons_succ]
              refine wpAnyH_ready (rs := [10]) (by kernel_rfl) (by simp) ?_
              refine (AllReadyH.cons (o := { dst := some 40, op := Go.Op.call { callee := Go.Callee.builtin Go.Builtin.append, args := #[Go.Operand.tmp 34, Go.Operand.tmp 39], argTypes := #[22, 22] }, type := 22, pos := "ref.go:115", after := #[{ on := 4, ground := Go.Ground.data }, { on := 9, ground := Go.Ground.data }, { on := 4, ground := Go.Ground.chain }], guard := none }) rfl (fun K hK => ?_) AllReadyH.nil)
              refine step_appV rfl (.tmp 34) (.tmp 39) rfl w1.heap.size _ _ _ [x] (by simp [Act.eval]) o3 (by simp [Act.eval]) (farV g3 ((oneV w1.drew x _ rfl).below ((Below.refl _ _).alloc (Nat.le_refl _) _)) (by simp [Value.ownBlock])) (by first | (simp; done) | (simp; omega)) hHeld3.size ?_
              intro v4 w4 o4 b4 g4 _
              refine hK.out _ _ (hHeld3.trans b4) (fun hHeldX => ?_)
              clear hK K
              simp only [Act.put, List.setIfInBounds_toArray, List.set_cons_zero, List.set_cons_succ]
              refine wpAnyH_ready (rs := [14]) (by kernel_rfl) (by simp) ?_
              refine (AllReadyH.cons (o := { dst := some 44, op := Go.Op.call { callee := Go.Callee.builtin Go.Builtin.append, args := #[Go.Operand.tmp 40, Go.Operand.tmp 43], argTypes := #[22, 22] }, type := 22, pos := "ref.go:115", after := #[{ on := 10, ground := Go.Ground.data }, { on := 13, ground := Go.Ground.data }, { on := 10, ground := Go.Ground.chain }], guard := none }) rfl (fun K hK => ?_) AllReadyH.nil)
              refine step_appV rfl (.tmp 40) (.tmp 43) rfl w1.heap.size _ _ _ (O.drop k) (by simp [Act.eval]) o4 (by simp [Act.eval]) (r2.below hHeldX) (by first | (simp; done) | (simp; omega)) hHeldX.size ?_
              intro v5 w5 o5 b5 g5 _
              refine hK.out _ _ (hHeldX.trans b5) (fun hHeldY => ?_)
              clear hK K
              simp only [Act.put, List.setIfInBounds_toArray, List.set_cons_zero, List.set_cons_succ]
              refine takeAt (i := 15) (d := 3) (v := v5) rfl rfl (by kernel_rfl) (by kernel_rfl) (by kernel_rfl) (fun _ _ _ h => h) (Or.inl ⟨by rfl, fun w hSw => by go_simp⟩) hHeldY ?_
              simp only [List.setIfInBounds_toArray, List.set_cons_zero, List.set_cons_succ]
              refine wpAnyH_done (by kernel_rfl) ?_ _
              go_wp2
              go_roundw
              case rel => exact ⟨i + 1, O.take k ++ x :: O.drop k, by go_num, by omega, by have := o5.mono hbs0; simpa using this, FIN.out.1, FIN.out.2.1, FIN.out.2.2, hbw.trans ((hbs.trans (hHeldY.mono hbs.size)).mono hbw.size)⟩
              case measure => first | (simp [intOf]; done) | (simp [intOf]; omega)
    · have hge : ¬ (i : Int) < (N : Int) := by omega
      obtain rfl : i = N := by omega
      have HF : Hid (StO X O) := hid (by
        have h1 := HS.out
        rwa [List.take_of_length_le (by have := HNX.out; omega)] at h1)
      clear hcell HS HOL
      go_wp2_with fail
      go_ret
      exact ⟨_, _, rfl, ho, HF.out, hbw⟩
end Go.Proofs.Ytcffagfkpkfgbaa
