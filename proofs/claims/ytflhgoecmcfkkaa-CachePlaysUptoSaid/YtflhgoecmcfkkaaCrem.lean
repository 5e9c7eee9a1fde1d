/-
  What cache's element.size and shelf.remove do. Conditions: those that each theorem names.
-/
import Derived.Test.YtflhgoecmcfkkaaCsh
import Derived.Deep.RegionWith
import Derived.Deep.RegionHeld3
namespace Go.Proofs.Ytflhgoecmcfkkaa
open Go.RowKit Go.Icz Go.Maps
theorem keyS {a : ByteArray} (ha : a.size ≤ maxLen) : keyOf Try.prog 9 (.string a) = some (kl a) := by simp [kl, keyOf, mapKey, Try.underlying9, ha]
set_option maxRecDepth 100000 in
theorem esize_is (k : ByteArray) (A : Option Addr) (n c : Nat) (w : World) (hk : k.size ≤ 1152921504606846976) (hn : n ≤ 1152921504606846976) :
    Calls Try.prog 32 #[.agg #[.string k, .slice A n c]] w fun e w' => e = .returned (.int .i64 ((k.size + n : Nat) : Int)) ∧ Below w.heap.size w w' := by
  have hw : IntKind.i64.wrap ((k.size : Int) + (n : Int)) = ((k.size + n : Nat) : Int) := by rw [IntKind.wrap_i64]; omega
  go_enter Try.func32, Try.ntmps32
  go_wp2
  go_ret
  exact ⟨by first | rfl | rw [hw] | simp, (Below.refl _ w).alloc (Nat.le_refl _) _⟩
set_option maxRecDepth 100000 in
theorem sremove_no (B s m li : Nat) (hi mi : Int) (l : List It) (k : ByteArray) (w : World) (h : Sh w B s m li hi mi l) (hk : k.size ≤ maxLen) (hin : isIn k l = false) :
    Calls Try.prog 33 #[.pointer (some ⟨s, 0, none⟩), .string k] w fun e w' => e = .returned (.bool false) ∧ w' = w := by
  obtain ⟨D, hown, ha⟩ := h.mp
  obtain ⟨u, ps, hrun, hu⟩ := hown.look_ok (string_keyed Try.underlying9) Try.underlying52 (Try.zeroValue53 w) (zd := .nil) (zp := []) rfl (keyS hk)
  rw [ha.has, hin] at hrun
  have c6 : w.cell? ⟨s, 6, none⟩ = some (.map (some m)) := held_cell h.at_ rfl
  clear h hown ha hu hin hk
  go_enter Try.func33, Try.ntmps33
  go_wp2
  go_ret
  exact ⟨rfl, rfl⟩
theorem wrap_sub {a b : Nat} (h : b ≤ a) (ha : a ≤ 1048576) : IntKind.i64.wrap ((a : Int) - (b : Int)) = ((a - b : Nat) : Int) := by rw [IntKind.wrap_i64]; omega
set_option maxRecDepth 100000 in
set_option maxHeartbeats 2000000 in
theorem sremove_yes (B s m li : Nat) (hi mi : Int) (xs ys : List It) (e : It) (w : World) (h : Sh w B s m li hi mi (xs ++ e :: ys)) :
    Calls Try.prog 33 #[.pointer (some ⟨s, 0, none⟩), .string e.key] w fun r w' => r = .returned (.bool true) ∧ Sh w' B s m li hi mi (xs ++ ys) ∧ Tch (Foot s m (xs ++ ys)) w w' := by
  obtain ⟨D, hown, ha⟩ := h.mp
  have hlen := h.len
  have hel := h.le
  have hlim := h.lim
  obtain ⟨hms, hmg⟩ := h.ms
  have hse : s ≠ e.g := fun hh => h.sn (by rw [hh]; exact mem_gs (by simp))
  rw [tot_app, tot_cons] at hel
  have hk : e.key.size ≤ maxLen := by unfold sz at hel; unfold maxLen; omega
  obtain ⟨u, ps, hrun, hu⟩ := hown.look_ok (string_keyed Try.underlying9) Try.underlying52 (Try.zeroValue53 w) (zd := .nil) (zp := []) rfl (keyS hk)
  have hin : isIn e.key (xs ++ e :: ys) = true := by unfold isIn; rw [List.any_append, List.any_cons]; simp
  rw [ha.has, hin] at hrun
  rw [ha.at_ e (by simp)] at hu
  obtain rfl := rPt_some hu
  have c6 : w.cell? ⟨s, 6, none⟩ = some (.map (some m)) := held_cell h.at_ rfl
  have hL := lremove_is s li (tot (xs ++ e :: ys)) hi mi (.map (some m)) xs ys e w h.at_ h.ch h.nd h.sn
  obtain ⟨A, c, hsv, _⟩ := (h.vs e (by simp)).rd
  have hgs : gs (xs ++ ys) ⊆ gs (xs ++ e :: ys) := by
    intro x hx
    rw [gs_app] at hx ⊢
    rcases List.mem_append.1 hx with h' | h'
    · exact List.mem_append.2 (.inl h')
    · exact List.mem_append.2 (.inr (List.mem_cons_of_mem _ h'))
  have hnd2 : (gs (xs ++ ys)).Nodup := by
    have := h.nd
    rw [gs_app] at this ⊢
    exact List.Nodup.sublist (List.Sublist.append (List.Sublist.refl _) (List.sublist_cons_self _ _)) this
  have hks2 : ((xs ++ ys).map (·.key)).Nodup := by
    have := h.ks
    rw [List.map_append] at this ⊢
    exact List.Nodup.sublist (List.Sublist.append (List.Sublist.refl _) (List.sublist_cons_self _ _)) this
  have heg : e.g ∉ gs (xs ++ ys) := by
    have := h.nd
    rw [gs_app] at this ⊢
    have h2 := List.nodup_append.1 this
    intro hx
    rcases List.mem_append.1 hx with h' | h'
    · exact h2.2.2 _ h' e.g (by simp [gs]) rfl
    · exact (List.nodup_cons.1 (show (e.g :: gs ys).Nodup from h2.2.1)).1 h'
  have hnb := h.nb
  have hD := ha.del (hown.tidy (string_keyed Try.underlying9)) h.ks
  have hvs := h.vs
  have hlo := h.lo
  have hsn2 : s ∉ gs (xs ++ ys) := fun hx => h.sn (hgs hx)
  have hmg2 : m ∉ gs (xs ++ ys) := fun hx => hmg (hgs hx)
  -- behind the list's removal
  have key : ∀ w1 w2 w3 w4 : World, ShAt w1 s li (tot (xs ++ e :: ys)) hi mi (xs ++ ys) (.map (some m)) → Chain w1 nl (xs ++ ys) nl → Tch (fun k => k = s ∨ k ∈ gs (xs ++ ys)) w w1 → w2.ownsMap Try.prog 9 rPt m (xs ++ e :: ys).length (D.del (kl e.key)) → w1.mapTurned w2 m → Below w2.heap.size w2 w3 →
      Sm (w3.setCell ⟨s, 1, none⟩ (.int .i64 ((tot (xs ++ ys) : Nat) : Int))) w4 → Sh w4 B s m li hi mi (xs ++ ys) ∧ Tch (Foot s m (xs ++ ys)) w w4 := by
    intro w1 w2 w3 w4 hs1 hc1 k1 ho2 t2 b3 k4
    have t2 := Tch.turned t2
    have t3 : Tch (fun _ => False) w2 w3 := Tch.of_below b3
    have hs2 : ShAt w2 s li (tot (xs ++ e :: ys)) hi mi (xs ++ ys) (.map (some m)) := t2.row hs1 (fun hh => hms hh.symm)
    have hc2 : Chain w2 nl (xs ++ ys) nl := hc1.touch t2 fun x hx hh => hmg2 (by rw [← hh]; exact mem_gs hx)
    have hs3 : ShAt w3 s li (tot (xs ++ e :: ys)) hi mi (xs ++ ys) (.map (some m)) := t3.row hs2 (fun hh => hh)
    have hc3 : Chain w3 nl (xs ++ ys) nl := hc2.touch t3 fun x hx hh => hh
    have k5 : Tch (· = s) w3 (w3.setCell ⟨s, 1, none⟩ (.int .i64 ((tot (xs ++ ys) : Nat) : Int))) := Tch.set _ _ _ _ rfl
    have kall : Tch (Foot s m (xs ++ ys)) w w4 := k4.out ((((k1.mono (fun j hj => hj.elim .inl (fun h => .inr (.inr h)))).trans (t2.mono (fun j hj => .inr (.inl hj)))).trans (t3.mono (fun j hj => hj.elim))).trans (k5.mono (fun j hj => .inl hj)))
    have hnb2 : NB (Foot s m (xs ++ ys)) w := fun j hj => hnb j (by rcases hj with h | h | h; exact .inl h; exact .inr (.inl h); exact .inr (.inr (hgs h)))
    have ho4 : w4.ownsMap Try.prog 9 rPt m (xs ++ e :: ys).length (D.del (kl e.key)) := ownsMap_touch (ownsMap_touch (ownsMap_touch ho2 t3 fun h => h) k5 hms) k4 fun h => h
    refine ⟨⟨k4.row (row_set (i := 1) hs3 _), k4.chain (hc3.touch k5 fun x hx hh => hsn2 (by rw [← hh]; exact mem_gs hx)), hnd2, hsn2, hks2, ⟨_, ownsMap_le ho4 (Nat.le_of_eq hD.size), hD⟩, fun x hx => (hvs x ?_).touch kall hnb2, ⟨hlo.1, hlo.2.1, fun x hx => hlo.2.2 x ?_⟩, ?_, hlim⟩, kall⟩
    · rcases List.mem_append.1 hx with h' | h'
      · exact List.mem_append.2 (.inl h')
      · exact List.mem_append.2 (.inr (List.mem_cons_of_mem _ h'))
    · rcases List.mem_append.1 hx with h' | h'
      · exact List.mem_append.2 (.inl h')
      · exact List.mem_append.2 (.inr (List.mem_cons_of_mem _ h'))
    · rw [tot_app]
      omega
  have hdel : ∀ w1 : World, Tch (fun k => k = s ∨ k ∈ gs (xs ++ ys)) w w1 → ∃ w2, (Builtin.delete_ #[52, 9] 0 #[.map (some m), .string e.key]).run Try.prog w1 = .ok (.tuple #[]) w2 ∧ w2.ownsMap Try.prog 9 rPt m (xs ++ e :: ys).length (D.del (kl e.key)) ∧ w1.mapTurned w2 m := by
    intro w1 k1
    exact (ownsMap_touch hown k1 (fun hh => hh.elim hms hmg2)).drop (string_keyed Try.underlying9) Try.underlying52 (keyS hk) 0
  have hes := fun w1 => esize_is e.key A e.val.length c w1 (by unfold sz at hel; omega) (by unfold sz at hel; omega)
  have hsz : sz e = e.key.size + e.val.length := rfl
  have hwr := wrap_sub (a := tot (xs ++ e :: ys)) (b := sz e) (by rw [tot_app, tot_cons]; omega) (by rw [tot_app, tot_cons]; omega)
  have htt : tot (xs ++ e :: ys) - sz e = tot (xs ++ ys) := by rw [tot_app, tot_cons, tot_app]; omega
  rw [htt] at hwr
  rw [← hsz] at hes
  have hL' : Calls Try.prog 38 #[.pointer (some ⟨s, 4, none⟩), .pointer (some ⟨e.g, 0, none⟩)] w fun r w' => r = .returned (.tuple #[]) ∧ ShAt w' s li (tot (xs ++ e :: ys)) hi mi (xs ++ ys) (.map (some m)) ∧ Chain w' nl (xs ++ ys) nl ∧ (∃ a b, Nd w' e a b) ∧ Tch (fun k => k = s ∨ k ∈ gs (xs ++ ys)) w w' := hL
  have cells : ∀ w1 w2 : World, ShAt w1 s li (tot (xs ++ e :: ys)) hi mi (xs ++ ys) (.map (some m)) → (∃ a b, Nd w1 e a b) → w1.mapTurned w2 m →
      w1.cell? ⟨s, 6, none⟩ = some (.map (some m)) ∧ w2.cell? ⟨s, 1, none⟩ = some (.int .i64 (tot (xs ++ e :: ys) : Nat)) ∧ w2.frozen? ⟨s, 1, none⟩ = false ∧ w2.cell? ⟨e.g, 0, none⟩ = some (.string e.key) ∧ w2.cell? ⟨e.g, 1, none⟩ = some (.slice A e.val.length c) ∧ s < w2.heap.size := by
    intro w1 w2 h1 ⟨a, b, h2⟩ t2
    have t2 := Tch.turned t2
    have h1' := t2.row h1 (fun hh => hms hh.symm)
    have h2' : Nd w2 e a b := h2.touch t2 (fun hh => hmg (by rw [← hh]; exact mem_gs (by simp)))
    unfold Nd at h2'
    rw [hsv] at h2'
    exact ⟨held_cell h1 rfl, held_cell h1' rfl, held_frozen h1', held_cell h2' rfl, held_cell h2' rfl, row_lt h1'⟩
  clear hown ha hu hin hL hnd2 hks2 heg hnb hD hvs hlo hsn2 hmg2 hsv htt hel hlim hlen h hsz hmg hgs
  generalize tot (xs ++ e :: ys) = tt at *
  generalize tot (xs ++ ys) = tu at *
  generalize sz e = se at *
  go_enter Try.func33, Try.ntmps33
  go_wp2_with (go_at_call 38; refine hL'.mono ?_; rintro r w1 ⟨rfl, hs1, hc1, hn1, k1⟩; obtain ⟨w2, hdel2, ho2, t2⟩ := hdel w1 k1; obtain ⟨q6, q1, qf, q2, q3, qlt⟩ := cells w1 w2 hs1 hn1 t2)
  clear hL' cells hdel hdel2 hn1 c6 q6
  have fin := fun w3 w4 => key w1 w2 w3 w4 hs1 hc1 k1 ho2 t2
  clear key hs1 hc1 k1 ho2 t2
  go_region_with (go_at_call 32; refine (hes _).mono ?_; rintro r3 w3 ⟨rfl, b3⟩; have b3 : Below w2.heap.size w2 w3 := (Below.refl _ w2).drew.trans b3; have z1 := (b3.cell (p := ⟨s, 1, none⟩) qlt).trans q1; have z2 := (b3.frozen (p := ⟨s, 1, none⟩) qlt).trans qf; have fin3 := fun w4 => fin w3 w4 b3; clear fin hes)
  all_goals go_wp2
  all_goals go_ret
  all_goals exact ⟨rfl, fin3 _ (Tch.refl _ _)⟩
theorem sremove_is (B s m li : Nat) (hi mi : Int) (l : List It) (k : ByteArray) (w : World) (h : Sh w B s m li hi mi l) (hk : k.size ≤ maxLen) :
    Calls Try.prog 33 #[.pointer (some ⟨s, 0, none⟩), .string k] w fun r w' => r = .returned (.bool (isIn k l)) ∧ Sh w' B s m li hi mi (del k l) ∧ Tch (Foot s m l) w w' := by
  cases hin : isIn k l with
  | false =>
    refine (sremove_no B s m li hi mi l k w h hk hin).mono ?_
    rintro r w' ⟨rfl, rfl⟩
    rw [del_no hin]
    exact ⟨rfl, h, Tch.refl _ _⟩
  | true =>
    obtain ⟨xs, e, ys, rfl, rfl⟩ := isIn_split hin
    refine (sremove_yes B s m li hi mi xs ys e w h).mono ?_
    rintro r w' ⟨rfl, h', t'⟩
    rw [del_mid h.ks]
    refine ⟨rfl, h', t'.mono ?_⟩
    rintro j (hj | hj | hj)
    · exact .inl hj
    · exact .inr (.inl hj)
    · refine .inr (.inr ?_)
      rw [gs_app] at hj ⊢
      rcases List.mem_append.1 hj with h' | h'
      · exact List.mem_append.2 (.inl h')
      · exact List.mem_append.2 (.inr (List.mem_cons_of_mem _ h'))
end Go.Proofs.Ytflhgoecmcfkkaa
