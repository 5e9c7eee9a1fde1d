/-
  What cache's shelf.put does. Conditions: those that the theorem names.
-/
import Derived.Test.YtflhgoecmcfkkaaCuse
namespace Go.Proofs.Ytflhgoecmcfkkaa
open Go.RowKit Go.Icz Go.Maps
set_option maxRecDepth 100000 in
set_option maxHeartbeats 4000000 in
theorem sput_is (B s m li : Nat) (hi mi : Int) (l : List It) (k : ByteArray) (v : List Nat) (A : Option Addr) (c : Nat) (w : World) (h : Sh w B s m li hi mi l) (hin : isIn k l = false) (hroom : tot l + (k.size + v.length) ≤ li) (hv : Own w B (.slice A v.length c) v) :
    Calls Try.prog 35 #[.pointer (some ⟨s, 0, none⟩), .agg #[.string k, .slice A v.length c]] w fun r w' => r = .returned (.tuple #[]) ∧ Sh w' B s m li hi mi (l ++ [⟨k, v, w.heap.size + 1, .slice A v.length c⟩]) ∧ Tch (Foot s m l) w w' := by
  have hlim := h.lim
  have hle := h.le
  obtain ⟨hms, hmg⟩ := h.ms
  obtain ⟨D, hown, ha⟩ := h.mp
  have hlen := h.len
  have hflt := h.lt
  have hk : k.size ≤ maxLen := by unfold maxLen; omega
  have b1 : Below w.heap.size w (w.alloc (.cells #[.string k, .slice A v.length c] 69)) := (Below.refl _ w).alloc (Nat.le_refl _) _
  have b2 : Below w.heap.size w ((w.alloc (.cells #[.string k, .slice A v.length c] 69)).alloc (.cells #[.string k, .slice A v.length c, .pointer none, .pointer none] 71)) := b1.alloc (by simp) _
  have hnew : ((w.alloc (.cells #[.string k, .slice A v.length c] 69)).alloc (.cells #[.string k, .slice A v.length c, .pointer none, .pointer none] 71)).heap[w.heap.size + 1]? = some (.cells #[.string k, .slice A v.length c, .pointer none, .pointer none] 71 (0, 0)) := by
    have := heap_alloc_new (w.alloc (.cells #[.string k, .slice A v.length c] 69)) (.cells #[.string k, .slice A v.length c, .pointer none, .pointer none] 71)
    simpa using this
  have hbox : ((w.alloc (.cells #[.string k, .slice A v.length c] 69)).alloc (.cells #[.string k, .slice A v.length c, .pointer none, .pointer none] 71)).heap[w.heap.size]? = some (.cells #[.string k, .slice A v.length c] 69 (0, 0)) :=
    row_alloc (heap_alloc_new w _) _
  have hB : B ≤ w.heap.size := by have := hflt s (.inl rfl); omega
  have es : (w.alloc (.cells #[.string k, .slice A v.length c] 69)).heap.size = w.heap.size + 1 := by simp
  have hn0 := heap_alloc_new w (.cells #[.string k, .slice A v.length c] 69)
  have x0 : (w.alloc (.cells #[.string k, .slice A v.length c] 69)).cell? ⟨w.heap.size, 0, none⟩ = some (.string k) := held_cell hn0 rfl
  have x1 : (w.alloc (.cells #[.string k, .slice A v.length c] 69)).cell? ⟨w.heap.size, 1, none⟩ = some (.slice A v.length c) := held_cell hn0 rfl
  have hlo := h.lo
  generalize hW1 : (w.alloc (.cells #[.string k, .slice A v.length c] 69)).alloc (.cells #[.string k, .slice A v.length c, .pointer none, .pointer none] 71) = W1 at *
  have h1 := h.below b2
  have hg0 : w.heap.size + 1 ∉ gs l := fun hx => by have := (hflt _ (.inr (.inr hx))).2; omega
  have hs0 : s ≠ w.heap.size + 1 := fun hx => by have := (hflt s (.inl rfl)).2; omega
  have hA : Calls Try.prog 39 #[.pointer (some ⟨s, 4, none⟩), .pointer (some ⟨w.heap.size + 1, 0, none⟩)] W1 fun r w' => r = .returned (.tuple #[]) ∧ ShAt w' s li (tot l) hi mi (l ++ [⟨k, v, w.heap.size + 1, .slice A v.length c⟩]) (.map (some m)) ∧ Chain w' nl (l ++ [⟨k, v, w.heap.size + 1, .slice A v.length c⟩]) nl ∧ Tch (fun j => j = s ∨ j ∈ gs (l ++ [⟨k, v, w.heap.size + 1, .slice A v.length c⟩])) W1 w' :=
    ladd_is s li (tot l) hi mi (.map (some m)) l ⟨k, v, w.heap.size + 1, .slice A v.length c⟩ _ _ W1 h1.at_ h1.ch h1.nd h1.sn hnew hg0 hs0
  have hgs : ∀ j, j ∈ gs (l ++ [⟨k, v, w.heap.size + 1, .slice A v.length c⟩]) ↔ j ∈ gs l ∨ j = w.heap.size + 1 := fun j => by rw [gs_app]; simp [gs]
  have hst : ∀ w2, Tch (fun j => j = s ∨ j ∈ gs (l ++ [⟨k, v, w.heap.size + 1, .slice A v.length c⟩])) W1 w2 → ShAt w2 s li (tot l) hi mi (l ++ [⟨k, v, w.heap.size + 1, .slice A v.length c⟩]) (.map (some m)) →
      ∃ w3, (Instr.mapUpdate 52 (.map (some m)) (.string k) (.pointer (some ⟨w.heap.size + 1, 0, none⟩))).run Try.prog w2.drew = .ok () w3 ∧ w3.ownsMap Try.prog 9 rPt m (l.length + 1) (D.put (kl k) (.lit (.int .i64 ((w.heap.size + 1 : Nat) : Int)))) ∧ Tch (· = m) w2 w3 ∧
        w2.cell? ⟨s, 6, none⟩ = some (.map (some m)) ∧ w2.cell? ⟨w.heap.size, 0, none⟩ = some (.string k) ∧ w3.cell? ⟨s, 1, none⟩ = some (.int .i64 (tot l : Nat)) ∧ w3.frozen? ⟨s, 1, none⟩ = false ∧ w3.cell? ⟨w.heap.size, 0, none⟩ = some (.string k) ∧ w3.cell? ⟨w.heap.size, 1, none⟩ = some (.slice A v.length c) ∧ s < w3.heap.size ∧ w.heap.size < w3.heap.size := by
    intro w2 t2 hs2
    have nm : ¬ (m = s ∨ m ∈ gs (l ++ [⟨k, v, w.heap.size + 1, .slice A v.length c⟩])) := by
      rw [hgs]
      rintro (hx | hx | hx)
      · exact hms hx
      · exact hmg hx
      · have := (hflt m (.inr (.inl rfl))).2; omega
    have ho1 : W1.ownsMap Try.prog 9 rPt m l.length D := ownsMap_touch hown (Tch.of_below b2 (S := fun _ => False)) (fun hh => hh)
    have ho2 : w2.drew.ownsMap Try.prog 9 rPt m l.length D := ownsMap_touch (ownsMap_touch ho1 t2 nm) (Tch.drew (fun _ => False) w2) fun hh => hh
    obtain ⟨w3, hrun, ho3, ht3⟩ := ho2.store (string_keyed Try.underlying9) Try.underlying52 (by unfold maxLen; omega) (key := .string k) (val := .pointer (some ⟨w.heap.size + 1, 0, none⟩)) (keyS hk) (d := .lit (.int .i64 ((w.heap.size + 1 : Nat) : Int))) (ps := []) rfl
    have t3 : Tch (· = m) w2 w3 := (Tch.drew _ w2).trans (Tch.turned ht3)
    have nb : ¬ (w.heap.size = s ∨ w.heap.size ∈ gs (l ++ [⟨k, v, w.heap.size + 1, .slice A v.length c⟩])) := by
      rw [hgs]
      rintro (hx | hx | hx)
      · have := (hflt s (.inl rfl)).2; omega
      · have := (hflt _ (.inr (.inr hx))).2; omega
      · omega
    have rb2 := t2.row hbox nb
    have rb3 := t3.row rb2 (fun hx => by have := (hflt m (.inr (.inl rfl))).2; omega)
    have rs3 := t3.row hs2 (fun hx => hms hx.symm)
    exact ⟨w3, hrun, ho3, t3, held_cell hs2 rfl, held_cell rb2 rfl, held_cell rs3 rfl, held_frozen rs3, held_cell rb3 rfl, held_cell rb3 rfl, row_lt rs3, row_lt rb3⟩
  have fin : ∀ w2 w3 w4 w5, Tch (fun j => j = s ∨ j ∈ gs (l ++ [⟨k, v, w.heap.size + 1, .slice A v.length c⟩])) W1 w2 → ShAt w2 s li (tot l) hi mi (l ++ [⟨k, v, w.heap.size + 1, .slice A v.length c⟩]) (.map (some m)) → Chain w2 nl (l ++ [⟨k, v, w.heap.size + 1, .slice A v.length c⟩]) nl →
      w3.ownsMap Try.prog 9 rPt m (l.length + 1) (D.put (kl k) (.lit (.int .i64 ((w.heap.size + 1 : Nat) : Int)))) → Tch (· = m) w2 w3 → Below w3.heap.size w3 w4 → Sm (w4.setCell ⟨s, 1, none⟩ (.int .i64 ((tot l + (k.size + v.length) : Nat) : Int))) w5 →
      Sh w5 B s m li hi mi (l ++ [⟨k, v, w.heap.size + 1, .slice A v.length c⟩]) ∧ Tch (Foot s m l) w w5 := by
    intro w2 w3 w4 w5 t2 hs2 hc2 ho3 t3 b4 k5
    have t4 : Tch (fun _ => False) w3 w4 := Tch.of_below b4
    have t5 : Tch (· = s) w4 (w4.setCell ⟨s, 1, none⟩ (.int .i64 ((tot l + (k.size + v.length) : Nat) : Int))) := Tch.set _ _ _ _ rfl
    have tf : Tch (Foot s m l) w w5 := by
      refine k5.out (Tch.out (Tch.out (Tch.out (Tch.out (Tch.of_below b2) t2 ?_) t3 ?_) t4 ?_) t5 ?_)
      · rintro j (hj | hj)
        · exact .inl (.inl hj)
        · rcases (hgs j).1 hj with hj | hj
          · exact .inl (.inr (.inr hj))
          · exact .inr (by omega)
      · rintro j hj; exact .inl (.inr (.inl hj))
      · rintro j hj; exact hj.elim
      · rintro j hj; exact .inl (.inl hj)
    have mg' : m ∉ gs (l ++ [⟨k, v, w.heap.size + 1, .slice A v.length c⟩]) := by
      rw [hgs]
      rintro (hx | hx)
      · exact hmg hx
      · have := (hflt m (.inr (.inl rfl))).2; omega
    have sg' : s ∉ gs (l ++ [⟨k, v, w.heap.size + 1, .slice A v.length c⟩]) := by
      rw [hgs]
      rintro (hx | hx)
      · exact h.sn hx
      · exact hs0 hx
    have hD := ha.put (e := ⟨k, v, w.heap.size + 1, .slice A v.length c⟩) (hown.tidy (string_keyed Try.underlying9)) hin
    have ho5 : w5.ownsMap Try.prog 9 rPt m (l.length + 1) (D.put (kl k) (.lit (.int .i64 ((w.heap.size + 1 : Nat) : Int)))) := ownsMap_touch (ownsMap_touch (ownsMap_touch ho3 t4 fun hh => hh) t5 hms) k5 fun hh => hh
    have htt : tot (l ++ [⟨k, v, w.heap.size + 1, .slice A v.length c⟩]) = tot l + (k.size + v.length) := by rw [tot_app]; simp [tot, sz]
    have hs4 := t4.row (t3.row hs2 fun hx => hms hx.symm) fun hx => hx
    have hc4 : Chain w4 nl (l ++ [⟨k, v, w.heap.size + 1, .slice A v.length c⟩]) nl := (hc2.touch t3 fun x hx hh => mg' (by rw [← hh]; exact mem_gs hx)).touch t4 fun _ _ hh => hh
    refine ⟨⟨?_, k5.chain (hc4.touch t5 fun x hx hh => sg' (by rw [← hh]; exact mem_gs hx)), ?_, sg', ?_, ⟨_, ownsMap_le ho5 (Nat.le_of_eq (by rw [hD.size])), hD⟩, ?_, ⟨h.lo.1, h.lo.2.1, ?_⟩, by rw [htt]; exact hroom, hlim⟩, tf⟩
    · rw [htt]
      exact k5.row (row_set (i := 1) hs4 _)
    · rw [gs_app]
      refine List.nodup_append.2 ⟨h.nd, by simp [gs], fun a ha' b hb => ?_⟩
      have : b = w.heap.size + 1 := by simpa [gs] using hb
      rw [this]
      exact fun hx => hg0 (by rw [← hx]; exact ha')
    · rw [List.map_append]
      refine List.nodup_append.2 ⟨h.ks, by simp, fun a ha' b hb => ?_⟩
      have hbk : b = k := by simpa using hb
      subst hbk
      obtain ⟨x, hx, rfl⟩ := List.mem_map.1 ha'
      unfold isIn at hin
      simpa using List.any_eq_false.1 hin x hx
    · intro x hx
      rcases List.mem_append.1 hx with hx | hx
      · exact (h.vs x hx).touch tf h.nb
      · obtain rfl : x = ⟨k, v, w.heap.size + 1, .slice A v.length c⟩ := by simpa using hx
        exact hv.touch tf h.nb
    · intro x hx
      rcases List.mem_append.1 hx with hx | hx
      · exact h.lo.2.2 x hx
      · obtain rfl : x = ⟨k, v, w.heap.size + 1, .slice A v.length c⟩ := by simpa using hx
        show B ≤ w.heap.size + 1
        omega
  have hes := fun w1 => esize_is k A v.length c w1 (by omega) (by omega)
  have hwr : IntKind.i64.wrap ((tot l : Int) + ((k.size + v.length : Nat) : Int)) = ((tot l + (k.size + v.length) : Nat) : Int) := by rw [IntKind.wrap_i64]; omega
  clear h hin hroom hv hlim hle hms hmg hown ha hlen hk b1 b2 hnew hbox hB hlo h1 hg0 hs0 hgs hn0
  generalize tot l + (k.size + v.length) = tn at *
  generalize k.size + v.length = kv at *
  generalize tot l = tt at *
  generalize hns : (l ++ [⟨k, v, w.heap.size + 1, .slice A v.length c⟩] : List It) = ns at *
  go_enter Try.func35, Try.ntmps35
  go_wp2_with (go_at_call 39; refine hA.mono ?_; rintro r w2 ⟨rfl, hs2, hc2, t2⟩; obtain ⟨w3, hrun, ho3, t3, q6, q0, z1, z2, z3, z4, z5, z6⟩ := hst w2 t2 hs2; clear hst hA)
  have fin2 := fun w4 w5 => fin w2 w3 w4 w5 t2 hs2 hc2 ho3 t3
  clear fin t2 hs2 hc2 ho3 t3
  go_region
  go_wp2
  go_region_with (go_at_call 32; refine (hes _).mono ?_; rintro r3 w4 ⟨rfl, b3⟩; have b3 : Below w3.heap.size w3 w4 := (Below.refl _ w3).drew.trans b3; have y1 := (b3.cell (p := ⟨s, 1, none⟩) z5).trans z1; have y2 := (b3.frozen (p := ⟨s, 1, none⟩) z5).trans z2; have fin3 := fun w5 => fin2 w4 w5 b3; clear fin2 hes)
  all_goals go_wp2
  all_goals go_end0
  all_goals exact ⟨rfl, fin3 _ (Tch.refl _ _)⟩
end Go.Proofs.Ytflhgoecmcfkkaa
