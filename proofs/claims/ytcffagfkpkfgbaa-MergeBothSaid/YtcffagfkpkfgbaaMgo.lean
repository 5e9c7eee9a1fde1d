/-
  Which of two entries comes first by the reference; whether a row is ordered, by merge and by the reference. Conditions: those that each theorem names.
-/
import Derived.Test.YtcffagfkpkfgbaaMgc
import Derived.Deep.RegionHeld3
namespace Go.Icz
open Go.RowKit
def en0 : Ent := ⟨0, 0, [], []⟩
/-- No entry of the list comes ahead of the one ahead of it. -/
def ordB (nb : Bool) (l : List Ent) : Bool := (List.range (l.length - 1)).all fun j => !frst kyE nb (l.getD (j + 1) en0) (l.getD j en0)
theorem ordB_iff {nb : Bool} {l : List Ent} : ordB nb l = true ↔ ∀ j (h : j + 1 < l.length), frst kyE nb l[j + 1] (l[j]'(by omega)) = false := by
  unfold ordB
  rw [List.all_eq_true]
  constructor
  · intro h j hj
    have := h j (List.mem_range.2 (by omega))
    simpa [List.getD, List.getElem?_eq_getElem hj, List.getElem?_eq_getElem (show j < l.length by omega)] using this
  · intro h j hj
    have hj := List.mem_range.1 hj
    have hj1 : j + 1 < l.length := by omega
    have := h j hj1
    simpa [List.getD, List.getElem?_eq_getElem hj1, List.getElem?_eq_getElem (show j < l.length by omega)] using this
theorem frst_V (nb : Bool) (x y : EV) : frst kyV nb x y = frst kyE nb x.1 y.1 := rfl
/-- .. of entries in memory. -/
theorem ordB_yes {nb : Bool} {l : List EV} (h : ∀ j (h : j + 1 < l.length), frst kyV nb l[j + 1] (l[j]'(by omega)) = false) : ordB nb (l.map (·.1)) = true := by
  rw [ordB_iff]
  intro j hj
  rw [List.length_map] at hj
  have := h j hj
  rw [List.getElem_map, List.getElem_map]
  exact this
theorem ordB_no {nb : Bool} {l : List EV} {j : Nat} (hj : j + 1 < l.length) (h : frst kyV nb l[j + 1] (l[j]'(by omega)) = true) : ordB nb (l.map (·.1)) = false := by
  cases hb : ordB nb (l.map (·.1)) with
  | false => rfl
  | true =>
    have := ordB_iff.1 hb j (by rw [List.length_map]; exact hj)
    rw [List.getElem_map, List.getElem_map] at this
    rw [frst_V] at h
    rw [h] at this
    cases this
end Go.Icz
namespace Go.Proofs.Ytcffagfkpkfgbaa
open Go.RowKit Go.Icz
set_option maxHeartbeats 1000000 in
set_option maxRecDepth 100000 in
theorem RBefore_is (x y : EV) (W : World) : Calls Try.prog 14 #[entV x, entV y] W fun e w' => e = .returned (.bool (bef kyV x y)) ∧ Below W.heap.size W w' := by
  have hb : ∀ o o2, Below W.heap.size W ((W.alloc o).alloc o2) := fun o o2 => ((Below.refl _ W).alloc (Nat.le_refl _) _).alloc (by simp) _
  unfold entV
  obtain ⟨⟨xs, xt, xl, xi⟩, xA, xc⟩ := x
  obtain ⟨⟨ys, yt, yl, yi⟩, yA, yc⟩ := y
  unfold bef kyV kyE
  simp only []
  by_cases h1 : xt < yt
  · have e : (decide (xt < yt) || (decide (xt = yt) && decide (xs < ys))) = true := by simp [h1]
    rw [e]
    clear e
    go_enter Try.func14, Try.ntmps14
    go_wp2
    go_ret
    exact ⟨rfl, hb _ _⟩
  · by_cases h2 : xt = yt
    · subst h2
      have e : (decide (xt < xt) || (decide (xt = xt) && decide (xs < ys))) = decide (xs < ys) := by simp
      rw [e]
      clear e
      go_enter Try.func14, Try.ntmps14
      go_wp2
      go_ret
      exact ⟨rfl, hb _ _⟩
    · have e : (decide (xt < yt) || (decide (xt = yt) && decide (xs < ys))) = false := by simp [h1, h2]
      have h3 : (xt == yt) = false := by simpa using h2
      rw [e]
      clear e
      go_enter Try.func14, Try.ntmps14
      go_wp2
      go_ret
      exact ⟨rfl, hb _ _⟩
set_option maxHeartbeats 4000000 in
set_option maxRecDepth 100000 in
theorem GOrd_is (v : Value) (nb : Bool) (l : List EV) (w : World) (hR : KEnt.Rd w v l) (hlen : l.length ≤ 1099511627776) :
    Calls Try.prog 13 #[v, .bool nb] w fun e w' => e = .returned (.bool (ordB nb (l.map (·.1)))) ∧ Below w.heap.size w w' := by
  obtain ⟨A, c, rfl, hlc⟩ := hR.form
  go_enter Try.func13, Try.ntmps13
  go_wp2
  go_loopw [5] (fun iv wr => ∃ i : Nat, iv = .int .i64 (i : Int) ∧ 1 ≤ i ∧ (i ≤ l.length ∨ i = 1) ∧ Hid (∀ j (h : j + 1 < l.length), j + 1 < i → frst kyV nb l[j + 1] (l[j]'(by omega)) = false) ∧ Below w.heap.size w wr) (fun iv _ => l.length - (intOf iv).toNat)
  case atStart => exact ⟨1, rfl, by omega, .inr rfl, hid (fun j h hj => by omega), Below.refl _ _⟩
  case round =>
    obtain ⟨k, rfl, hk1, hk2, HO, hbw⟩ := hrel
    by_cases hlt : k < l.length
    · obtain ⟨i, hi⟩ : ∃ i, k = i + 1 := ⟨k - 1, by omega⟩
      have hi' : i < l.length := by omega
      obtain ⟨b, off, hA, hb, hcx⟩ := hR.at hlt
      obtain ⟨b2, off2, hA2, _, hcy⟩ := hR.at hi'
      rw [hA] at hA2
      injection hA2 with hA2
      injection hA2 with e1 e2
      subst e1 e2 hA
      have HX : Hid (frst kyV nb l[k] l[i] = false → ∀ j (h : j + 1 < l.length), j + 1 < k + 1 → frst kyV nb l[j + 1] (l[j]'(by omega)) = false) := hid (fun h j hj hjk => by
        subst hi
        by_cases e : j = i
        · subst e; exact h
        · exact HO.out j hj (by omega))
      have HN : Hid (frst kyV nb l[k] l[i] = true → ordB nb (l.map (·.1)) = false) := hid (fun h => by subst hi; exact ordB_no hlt h)
      have mkS0 : ∀ w', Below wr.heap.size wr w' → Below wr.heap.size wr w' ∧ (∀ u q, q < 4 → (KEnt.enc l[k])[q]? = some u → w'.cell? ⟨b, off + (k * 4 + q), none⟩ = some u) ∧ (∀ u q, q < 4 → (KEnt.enc l[i])[q]? = some u → w'.cell? ⟨b, off + (i * 4 + q), none⟩ = some u) := fun w' h => ⟨h, fun u q hq hu => ((hbw.trans (h.mono hbw.size)).cell (p := ⟨b, off + (k * 4 + q), none⟩) hb).trans (hcx q u hq hu), fun u q hq hu => ((hbw.trans (h.mono hbw.size)).cell (p := ⟨b, off + (i * 4 + q), none⟩) hb).trans (hcy q u hq hu)⟩
      have hki : ((k : Int) - 1) = (i : Int) := by omega
      have hkl : (k : Int) < (l.length : Int) := by omega
      have hwi : IntKind.i64.wrap (i : Int) = (i : Int) := by rw [IntKind.wrap_i64]; omega
      have hil : (i : Int) < (l.length : Int) := by omega
      have hkm : (k : Int) ≤ 1099511627776 := by omega
      have HK := hid (show k < l.length ∧ k = i + 1 from ⟨hlt, hi⟩)
      clear hcx hcy HO hi hR
      have hF := fun w1 => first_is l[k] l[i] nb w1
      generalize l[k] = x at *
      generalize l[i] = y at *
      unfold entV at hF
      have mkS : ∀ w', Below wr.heap.size wr w' → Below wr.heap.size wr w' ∧ w'.cell? ⟨b, off + i * 4, none⟩ = some (.int .i64 y.1.seq) ∧ w'.cell? ⟨b, off + i * 4 + 1, none⟩ = some (.int .i64 y.1.time) ∧ w'.cell? ⟨b, off + i * 4 + 2, none⟩ = some (.slice y.2.1 y.1.labs.length y.2.2) ∧ w'.cell? ⟨b, off + i * 4 + 3, none⟩ = some (.string ⟨y.1.line.toArray⟩) ∧ w'.cell? ⟨b, off + k * 4, none⟩ = some (.int .i64 x.1.seq) ∧ w'.cell? ⟨b, off + k * 4 + 1, none⟩ = some (.int .i64 x.1.time) ∧ w'.cell? ⟨b, off + k * 4 + 2, none⟩ = some (.slice x.2.1 x.1.labs.length x.2.2) ∧ w'.cell? ⟨b, off + k * 4 + 3, none⟩ = some (.string ⟨x.1.line.toArray⟩) := fun w' h => by
        obtain ⟨h1, hx, hy⟩ := mkS0 w' h
        exact ⟨h1, hy _ 0 (by decide) rfl, hy _ 1 (by decide) rfl, hy _ 2 (by decide) rfl, hy _ 3 (by decide) rfl, hx _ 0 (by decide) rfl, hx _ 1 (by decide) rfl, hx _ 2 (by decide) rfl, hx _ 3 (by decide) rfl⟩
      have hk := mkS wr.drew (Below.refl _ _).drew
      clear mkS0
      cases hr : frst kyV nb x y with
      | true =>
        have HR2 := hid (HN.out hr)
        rw [hr] at hF
        clear hr HN HX
        go_wp2_with fail
        go_region_held3 (fun w' => Below wr.heap.size wr w' ∧ w'.cell? ⟨b, off + i * 4, none⟩ = some (.int .i64 y.1.seq) ∧ w'.cell? ⟨b, off + i * 4 + 1, none⟩ = some (.int .i64 y.1.time) ∧ w'.cell? ⟨b, off + i * 4 + 2, none⟩ = some (.slice y.2.1 y.1.labs.length y.2.2) ∧ w'.cell? ⟨b, off + i * 4 + 3, none⟩ = some (.string ⟨y.1.line.toArray⟩) ∧ w'.cell? ⟨b, off + k * 4, none⟩ = some (.int .i64 x.1.seq) ∧ w'.cell? ⟨b, off + k * 4 + 1, none⟩ = some (.int .i64 x.1.time) ∧ w'.cell? ⟨b, off + k * 4 + 2, none⟩ = some (.slice x.2.1 x.1.labs.length x.2.2) ∧ w'.cell? ⟨b, off + k * 4 + 3, none⟩ = some (.string ⟨x.1.line.toArray⟩)) (exact hk)
          (first | (go_at_call 20; refine (hF _).mono ?_; rintro e w1 ⟨rfl, b1⟩; have hk := mkS _ (hk.1.trans (b1.mono hk.1.size))))
        go_wp2_with fail
        go_ret
        exact ⟨by rw [HR2.out]; rfl, hbw.trans (hk.1.mono hbw.size)⟩
      | false =>
        have HR2 := hid (HX.out hr)
        rw [hr] at hF
        clear hr HN HX
        go_wp2_with fail
        go_region_held3 (fun w' => Below wr.heap.size wr w' ∧ w'.cell? ⟨b, off + i * 4, none⟩ = some (.int .i64 y.1.seq) ∧ w'.cell? ⟨b, off + i * 4 + 1, none⟩ = some (.int .i64 y.1.time) ∧ w'.cell? ⟨b, off + i * 4 + 2, none⟩ = some (.slice y.2.1 y.1.labs.length y.2.2) ∧ w'.cell? ⟨b, off + i * 4 + 3, none⟩ = some (.string ⟨y.1.line.toArray⟩) ∧ w'.cell? ⟨b, off + k * 4, none⟩ = some (.int .i64 x.1.seq) ∧ w'.cell? ⟨b, off + k * 4 + 1, none⟩ = some (.int .i64 x.1.time) ∧ w'.cell? ⟨b, off + k * 4 + 2, none⟩ = some (.slice x.2.1 x.1.labs.length x.2.2) ∧ w'.cell? ⟨b, off + k * 4 + 3, none⟩ = some (.string ⟨x.1.line.toArray⟩)) (exact hk)
          (first | (go_at_call 20; refine (hF _).mono ?_; rintro e w1 ⟨rfl, b1⟩; have hk := mkS _ (hk.1.trans (b1.mono hk.1.size))))
        go_wp2_with fail
        go_roundw
        case rel => exact ⟨k + 1, by go_num, by omega, .inl HK.out.1, HR2, hbw.trans (hk.1.mono hbw.size)⟩
        case measure => have := HK.out; simp [intOf]; omega
    · have HR2 : Hid (ordB nb (l.map (·.1)) = true) := hid (ordB_yes (fun j h => HO.out j h (by omega)))
      have hkl : ¬ (k : Int) < (l.length : Int) := by omega
      clear HO
      go_wp2
      go_ret
      exact ⟨by rw [HR2.out]; rfl, hbw⟩
end Go.Proofs.Ytcffagfkpkfgbaa
