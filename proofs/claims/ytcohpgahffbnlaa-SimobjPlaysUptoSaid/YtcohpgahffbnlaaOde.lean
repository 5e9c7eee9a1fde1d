/-
  slices.Delete at changes: the first i go. Conditions: those that each theorem names.
-/
import Derived.Test.YtcohpgahffbnlaaOm2
namespace Go.Icz
open Go.RowKit
/-- A row overwritten from place o on. -/
def ovw (cur : Array Value) : Nat → List Value → Array Value
  | _, [] => cur
  | o, v :: r => ovw (cur.setIfInBounds o v) (o + 1) r
theorem ovw_size : ∀ (vs : List Value) (cur : Array Value) (o : Nat), (ovw cur o vs).size = cur.size
  | [], _, _ => rfl
  | v :: r, cur, o => by
    unfold ovw
    rw [ovw_size r]
    simp
theorem ovw_low : ∀ (vs : List Value) (cur : Array Value) (o j : Nat), j < o → (ovw cur o vs)[j]? = cur[j]?
  | [], _, _, _, _ => rfl
  | v :: r, cur, o, j, h => by
    unfold ovw
    rw [ovw_low r _ (o + 1) j (by omega), Array.getElem?_setIfInBounds_ne (by omega)]
theorem ovw_in : ∀ (vs : List Value) (cur : Array Value) (o j : Nat), o + vs.length ≤ cur.size → j < vs.length → (ovw cur o vs)[o + j]? = vs[j]?
  | [], _, _, _, _, h => absurd h (by simp)
  | v :: r, cur, o, j, h, hj => by
    unfold ovw
    rw [List.length_cons] at h hj
    cases j with
    | zero =>
      show (ovw (cur.setIfInBounds o v) (o + 1) r)[o]? = _
      rw [ovw_low r _ (o + 1) o (by omega)]
      simp [show o < cur.size by omega]
    | succ j =>
      have := ovw_in r (cur.setIfInBounds o v) (o + 1) j (by simp; omega) (by omega)
      rw [show o + (j + 1) = o + 1 + j by omega, this]
      rfl
theorem row_setCells : ∀ (vs : List Value) {w : World} {g : Nat} {cur : Array Value} {t : TypeId} (o : Nat), w.heap[g]? = some (.cells cur t (0, 0)) → (w.setCells g o vs).heap[g]? = some (.cells (ovw cur o vs) t (0, 0))
  | [], _, _, _, _, _, h => h
  | v :: r, w, g, cur, t, o, h => by
    unfold World.setCells ovw
    exact row_setCells r (o + 1) (row_set h v)
theorem tch_setCells : ∀ (vs : List Value) (w : World) (g o : Nat), Tch (· = g) w (w.setCells g o vs)
  | [], w, g, _ => Tch.refl _ w
  | v :: r, w, g, o => (Tch.set (· = g) w ⟨g, o, none⟩ v rfl).trans (tch_setCells r _ g (o + 1))
theorem take_eq {a b : List Value} (n : Nat) (hl : n ≤ a.length) (hb : b.length = n) (h : ∀ j, j < n → a[j]? = b[j]?) : a.take n = b := by
  apply List.ext_getElem?
  intro j
  rcases Nat.lt_or_ge j n with hj | hj
  · rw [List.getElem?_take_of_lt hj]
    exact h j hj
  · rw [List.getElem?_eq_none (by rw [List.length_take]; omega), List.getElem?_eq_none (by omega)]
end Go.Icz
namespace Go.Proofs.Ytcohpgahffbnlaa
open Go.RowKit Go.Icz Go.Maps Go.ChangeMaps Go.MapKept
set_option maxRecDepth 100000
set_option maxHeartbeats 4000000
theorem infoC : (Try.prog.info? KC.e).map (fun i => (i.zero, i.size, i.bytes)) = some (some (.agg #[.int .i64 0, .string ⟨#[]⟩, .bool false]), KC.z, 32) := by kernel_rfl
theorem zeros_one (m : Nat) : ∀ v ∈ (Builtin.zeroCells #[.int .i64 0, .string ⟨#[]⟩, .bool false] m).toList, v.oneCell' = true := by
  intro v hv
  unfold Builtin.zeroCells at hv
  simp only [Array.toList_map, List.mem_map] at hv
  obtain ⟨i, _, rfl⟩ := hv
  have h3 : i % 3 < 3 := Nat.mod_lt _ (by omega)
  have : (#[Value.int .i64 0, .string ⟨#[]⟩, .bool false] : Array Value).size = 3 := rfl
  rw [this]
  obtain h | h | h : i % 3 = 0 ∨ i % 3 = 1 ∨ i % 3 = 2 := by omega
  · rw [h]; rfl
  · rw [h]; rfl
  · rw [h]; rfl
theorem delete_is {w : World} {v : Value} {l : List Chg} (h : KC.Own w 0 v l) (hlen : l.length ≤ 4194304) {i : Nat} (hi : i < l.length) :
    Calls Try.prog 51 #[v, .int .i64 0, .int .i64 (i : Int)] w fun e w' => ∃ v', e = .returned v' ∧ KC.Own w' 0 v' (l.drop i) ∧ v'.ownBlock = v.ownBlock ∧ Tch (fun j => v.ownBlock = some j) w w' := by
  have hl3 := KC.cells_len l
  rcases h.2 with ⟨_, h0⟩ | ⟨g, cap, cur, hv, hg0, hrow, hnc, hcm, hcs, htake⟩
  · omega
  have hz : KC.z = 3 := rfl
  rw [hz] at hcs htake
  have hmx : maxLen = 9223372036854775807 := rfl
  subst hv
  by_cases h0 : i = 0
  · subst h0
    have HO : Hid (KC.Own w 0 (.slice (some ⟨g, 0, none⟩) l.length cap) l) := hid h
    have hl' : (l.length : Int) ≤ (cap : Int) := by omega
    clear htake hcs hrow h
    go_enter Try.func51, Try.ntmps51
    go_wp2
    go_ret
    exact ⟨_, rfl, by rw [List.drop_zero]; exact HO.out, rfl, Tch.refl _ _⟩
  · obtain ⟨news, hnews⟩ : ∃ news, news = KC.cells (l.drop i) := ⟨_, rfl⟩
    have hnl : news.length = (l.length - i) * 3 := by rw [hnews, KC.cells_len, List.length_drop, hz]
    obtain ⟨W1, hW1⟩ : ∃ W1, W1 = w.drew.setCells g 0 news := ⟨_, rfl⟩
    obtain ⟨ti, hti, tz, tsz, tby⟩ := info_parts infoC
    have hrowd : w.drew.heap[g]? = some (.cells cur 92 (0, 0)) := hrow
    have hcell : ∀ j u, (KC.cells l)[j]? = some u → w.drew.cell? ⟨g, j, none⟩ = some u := fun j u hu => by
      refine held_cell hrowd ?_
      rw [← htake] at hu
      have hj : j < l.length * 3 := by
        rw [htake] at hu
        have := (List.getElem?_eq_some_iff.1 hu).1
        rwa [hl3] at this
      rw [List.getElem?_take_of_lt hj, Array.getElem?_toList] at hu
      exact hu
    have hsplit : KC.cells l = KC.cells (l.take i) ++ news := by rw [hnews, ← KC.cells_app, List.take_append_drop]
    have hlt : (KC.cells (l.take i)).length = i * 3 := by
      rw [KC.cells_len, List.length_take, hz]
      congr 1
      omega
    have hrun : ∀ ty, (Builtin.append_ #[38, 38] ty #[.slice (some ⟨g, 0, none⟩) 0 cap, .slice (some ⟨g, i * 3, none⟩) (l.length - i) (cap - i)]).run Try.prog w.drew = .ok (.slice (some ⟨g, 0, none⟩) (l.length - i) cap) W1 := fun ty => by
      have := run_append_room_cells (P := Try.prog) (w := w.drew) 38 ty 92 ti Try.underlying38 hti g 0 0 cap ⟨g, i * 3, none⟩ (l.length - i) (cap - i) news (by rw [tsz, hz]; exact hnl) (fun j u hu => by
          rw [add_flat]
          refine hcell _ u ?_
          rw [hsplit, List.getElem?_append_right (by omega), hlt, show i * 3 + j - i * 3 = j by omega]
          exact hu) (fun u hu => by rw [hnews] at hu; exact KC.cells_one _ u hu) (by omega) (fun j hj => by
          rw [show 0 + 0 * ti.size + j = j by omega, held_cell (i := j) hrowd (Array.getElem?_eq_getElem (by omega))]
          rfl) (fun j hj => held_frozen hrowd)
      simpa [← hW1] using this
    have hrow1 : W1.heap[g]? = some (.cells (ovw cur 0 news) 92 (0, 0)) := by rw [hW1]; exact row_setCells news 0 hrowd
    obtain ⟨zs, hzs⟩ : ∃ zs, zs = (Builtin.zeroCells #[Value.int .i64 0, .string ⟨#[]⟩, .bool false] i).toList := ⟨_, rfl⟩
    have hzl : zs.length = i * 3 := by rw [hzs]; unfold Builtin.zeroCells; simp
    obtain ⟨W2, hW2⟩ : ∃ W2, W2 = W1.setCells g ((l.length - i) * 3) zs := ⟨_, rfl⟩
    have hclr : ∀ ty, (Builtin.clear_ #[38] ty #[.slice (some ⟨g, (l.length - i) * 3, none⟩) i (cap - (l.length - i))]).run Try.prog W1 = .ok (.tuple #[]) W2 := fun ty => by
      have hst := run_storeCells_cells (P := Try.prog) g ((l.length - i) * 3) zs 0 W1 (fun j hj => by
        rw [held_cell (i := (l.length - i) * 3 + 0 + j) hrow1 (Array.getElem?_eq_getElem (by rw [ovw_size]; omega))]
        rfl) (fun j hj => held_frozen hrow1) (fun v hv => zeros_one i v (by rw [hzs] at hv; exact hv))
      simp only [Nat.add_zero] at hst
      obtain ⟨m, rfl⟩ : ∃ m, i = m + 1 := ⟨i - 1, by omega⟩
      rw [← hW2] at hst
      have hzv := Try.zeroValue92
      simp [Builtin.clear_, run_underlying Try.underlying38, hzv]
      rw [hzs] at hst
      have hcc : (Value.agg #[.int .i64 0, .string ⟨#[]⟩, .bool false]).cells = #[.int .i64 0, .string ⟨#[]⟩, .bool false] := by rfl
      rw [hcc]
      simp [hst]
    have hrow2 : W2.heap[g]? = some (.cells (ovw (ovw cur 0 news) ((l.length - i) * 3) zs) 92 (0, 0)) := by rw [hW2]; exact row_setCells zs _ hrow1
    have HT : Hid (Tch (· = g) w W2) := hid (by
      rw [hW2, hW1]
      exact ((Tch.drew _ w).trans (tch_setCells _ _ _ _)).trans (tch_setCells _ _ _ _))
    have HO : Hid (KC.Own W2 0 (.slice (some ⟨g, 0, none⟩) (l.length - i) cap) (l.drop i)) := by
      refine hid ⟨by rw [KC.cells_len], .inr ⟨g, cap, _, by rw [List.length_drop], Nat.zero_le _, hrow2, by rw [List.length_drop]; omega, hcm, by rw [ovw_size, ovw_size, hz]; exact hcs, ?_⟩⟩
      rw [List.length_drop, hz, ← hnews]
      have hlz : (ovw (ovw cur 0 news) ((l.length - i) * 3) zs).toList.length = cap * 3 := by rw [Array.length_toList, ovw_size, ovw_size]; exact hcs
      refine take_eq _ (by omega) hnl (fun j hj => ?_)
      rw [Array.getElem?_toList, ovw_low _ _ _ _ hj]
      have := ovw_in news cur 0 j (by omega) (by omega)
      rwa [Nat.zero_add] at this
    have n1 : (i : Int) ≤ (l.length : Int) := by omega
    have n2 : (l.length : Int) ≤ (cap : Int) := by omega
    have n3 : ¬ cap = i := by omega
    have n4 : ¬ ((0 : Int) = (i : Int)) := by omega
    have n5 : (i : Int) ≤ (cap : Int) := by omega
    have e1 : l.length - (l.length - i) = i := by omega
    have n6 : l.length - i ≤ l.length := by omega
    have n7 : ¬ cap = l.length - i := by omega
    clear hW1 hW2 hrowd hrow hcell hsplit hlt htake h hnews hnl hrow1 hrow2 hzs hzl hti tz tsz tby
    go_enter Try.func51, Try.ntmps51
    go_wp2_with fail
    go_region_law (refine step_run_app rfl (.tmp 22) (.tmp 25) 38 rfl (.slice (some ⟨g, 0, none⟩) 0 cap) (.slice (some ⟨g, i * 3, none⟩) (l.length - i) (cap - i)) (.slice (some ⟨g, 0, none⟩) (l.length - i) cap) W1 rfl rfl (hrun _) ?_)
    go_wp2
    go_ret
    exact ⟨_, rfl, HO.out, rfl, HT.out.mono (fun k hk => by rw [hk]; rfl)⟩
end Go.Proofs.Ytcohpgahffbnlaa
