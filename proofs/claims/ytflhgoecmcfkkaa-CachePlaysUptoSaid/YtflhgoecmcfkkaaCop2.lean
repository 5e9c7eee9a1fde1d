/-
  What cache's calls do: Peek, Get, Drop, Put. Conditions: those that each theorem names.
-/
import Derived.Test.YtflhgoecmcfkkaaCops
namespace Go.Icz
def theIt (k : ByteArray) (l : List It) : Option It := l.find? fun e => decide (e.key = k)
/-- A key's value. -/
def valC (k : ByteArray) (l : List It) : List Nat := match theIt k l with | some e => e.val | none => []
/-- The key's item is used last. -/
def bump (k : ByteArray) (l : List It) : List It := match theIt k l with | some e => del k l ++ [e] | none => l
theorem theIt_no {k : ByteArray} {l : List It} (h : isIn k l = false) : theIt k l = none := by
  unfold theIt isIn at *
  rw [List.find?_eq_none]
  intro e he
  simpa using List.any_eq_false.1 h e he
theorem theIt_mid {xs ys : List It} {e : It} (h : ((xs ++ e :: ys).map (·.key)).Nodup) : theIt e.key (xs ++ e :: ys) = some e := by
  obtain ⟨h1, _⟩ := keys_mid h
  unfold theIt
  rw [List.find?_append]
  have : xs.find? (fun x => decide (x.key = e.key)) = none := by
    rw [List.find?_eq_none]
    intro x hx
    simpa using h1 x hx
  rw [this]
  simp
theorem isIn_del (k : ByteArray) (l : List It) : isIn k (del k l) = false := by
  unfold isIn del
  rw [List.any_eq_false]
  intro e he
  have := (List.mem_filter.1 he).2
  simpa using this
theorem isIn_room {k : ByteArray} {li n : Nat} {l : List It} (h : isIn k l = false) : isIn k (room li n l) = false := by
  obtain ⟨xs, e⟩ := room_suffix li n l
  rw [e] at h
  unfold isIn at *
  rw [List.any_append, Bool.or_eq_false_iff] at h
  exact h.2
end Go.Icz
namespace Go.Proofs.Ytflhgoecmcfkkaa
open Go.RowKit Go.Icz Go.Maps
/-- The counts are turned. -/
theorem Sh.setHi {w : World} {B s m li : Nat} {hi mi : Int} {l : List It} (h : Sh w B s m li hi mi l) (x : Int) : Sh (w.setCell ⟨s, 2, none⟩ (.int .i64 x)) B s m li x mi l ∧ Tch (Foot s m l) w (w.setCell ⟨s, 2, none⟩ (.int .i64 x)) := by
  have t : Tch (· = s) w (w.setCell ⟨s, 2, none⟩ (.int .i64 x)) := Tch.set _ _ _ _ rfl
  have tf : Tch (Foot s m l) w (w.setCell ⟨s, 2, none⟩ (.int .i64 x)) := t.mono fun j hj => .inl hj
  obtain ⟨D, h1, h2⟩ := h.mp
  exact ⟨⟨row_set (i := 2) h.at_ _, h.ch.touch t fun e he hh => h.sn (by rw [← hh]; exact mem_gs he), h.nd, h.sn, h.ks, ⟨D, ownsMap_touch h1 t h.ms.1, h2⟩, fun e he => (h.vs e he).touch tf h.nb, h.lo, h.le, h.lim⟩, tf⟩
theorem Sh.setMi {w : World} {B s m li : Nat} {hi mi : Int} {l : List It} (h : Sh w B s m li hi mi l) (x : Int) : Sh (w.setCell ⟨s, 3, none⟩ (.int .i64 x)) B s m li hi x l ∧ Tch (Foot s m l) w (w.setCell ⟨s, 3, none⟩ (.int .i64 x)) := by
  have t : Tch (· = s) w (w.setCell ⟨s, 3, none⟩ (.int .i64 x)) := Tch.set _ _ _ _ rfl
  have tf : Tch (Foot s m l) w (w.setCell ⟨s, 3, none⟩ (.int .i64 x)) := t.mono fun j hj => .inl hj
  obtain ⟨D, h1, h2⟩ := h.mp
  exact ⟨⟨row_set (i := 3) h.at_ _, h.ch.touch t fun e he hh => h.sn (by rw [← hh]; exact mem_gs he), h.nd, h.sn, h.ks, ⟨D, ownsMap_touch h1 t h.ms.1, h2⟩, fun e he => (h.vs e he).touch tf h.nb, h.lo, h.le, h.lim⟩, tf⟩
/-- The look at the map. -/
theorem Sh.look {w : World} {B s m li : Nat} {hi mi : Int} {l : List It} (h : Sh w B s m li hi mi l) (k : ByteArray) (hk : k.size ≤ maxLen) :
    (isIn k l = false ∧ ∃ u, (Instr.lookup 52 (.map (some m)) (.string k) true).run Try.prog w = .ok (.tuple #[u, .bool false]) w) ∨
    (isIn k l = true ∧ ∃ xs e ys, l = xs ++ e :: ys ∧ e.key = k ∧ (Instr.lookup 52 (.map (some m)) (.string k) true).run Try.prog w = .ok (.tuple #[.pointer (some ⟨e.g, 0, none⟩), .bool true]) w) := by
  obtain ⟨D, hown, ha⟩ := h.mp
  obtain ⟨u, ps, hrun, hu⟩ := hown.look_ok (string_keyed Try.underlying9) Try.underlying52 (Try.zeroValue53 w) (zd := .nil) (zp := []) rfl (keyS hk)
  rw [ha.has] at hrun
  cases hin : isIn k l with
  | false => rw [hin] at hrun; exact .inl ⟨rfl, u, hrun⟩
  | true =>
    obtain ⟨xs, e, ys, rfl, rfl⟩ := isIn_split hin
    rw [hin] at hrun
    rw [ha.at_ e (by simp)] at hu
    obtain rfl := rPt_some hu
    exact .inr ⟨rfl, xs, e, ys, rfl, rfl, hrun⟩
theorem Sh.small {w : World} {B s m li : Nat} {hi mi : Int} {l : List It} (h : Sh w B s m li hi mi l) {e : It} (he : e ∈ l) : e.key.size ≤ 1048576 ∧ e.val.length ≤ 1048576 ∧ sz e ≤ li := by
  obtain ⟨xs, ys, rfl⟩ := List.append_of_mem he
  have h1 := h.le
  have h2 := h.lim
  rw [tot_app, tot_cons] at h1
  unfold sz at h1 ⊢
  omega
set_option maxRecDepth 100000 in
theorem Peek_is {w : World} {B q s m li : Nat} {hi mi : Int} {l : List It} (h : Ca w B q s m li hi mi l) (k : ByteArray) (hk : k.size ≤ maxLen) :
    Calls Try.prog 13 #[.pointer (some ⟨q, 0, none⟩), .string k] w fun e w' => ∃ u, e = .returned (.tuple #[u, .bool (isIn k l)]) ∧ Own w' w.heap.size u (valC k l) ∧ Below w.heap.size w w' := by
  have hL := looked_yes h.at_
  have c6 : w.cell? ⟨s, 6, none⟩ = some (.map (some m)) := held_cell h.sh.at_ rfl
  rcases h.sh.look k hk with ⟨hin, u, hrun⟩ | ⟨hin, xs, e, ys, rfl, rfl, hrun⟩
  · rw [hin]
    unfold valC
    rw [theIt_no hin]
    clear h hin hk
    go_enter Try.func13, Try.ntmps13
    go_wp2_with (go_at_call 28; refine hL.mono ?_; rintro e w1 ⟨rfl, rfl⟩)
    go_ret2
    exact ⟨_, rfl, Own.nil _ _, Below.refl _ _⟩
  · rw [hin]
    unfold valC
    rw [theIt_mid h.sh.ks]
    obtain ⟨a, b, hn⟩ := h.sh.ch.node (e := e) (by simp)
    have c1 : w.cell? ⟨e.g, 1, none⟩ = some e.sv := held_cell hn rfl
    have hC := Clone_any e.sv e.val w (h.sh.vs e (by simp)).rd (by have := h.sh.small (e := e) (by simp); omega)
    obtain ⟨A, c, hsv, _⟩ := (h.sh.vs e (by simp)).rd
    rw [hsv] at c1 hC
    clear h hin hk hn hsv
    go_enter Try.func13, Try.ntmps13
    go_wp2_with (first
      | (go_at_call 28; refine hL.mono ?_; rintro e w1 ⟨rfl, rfl⟩)
      | (go_at_call 30; refine hC.mono ?_; rintro e2 w2 ⟨u, rfl, o2, b2⟩))
    go_ret2
    exact ⟨u, rfl, o2, b2⟩
set_option maxRecDepth 100000 in
theorem Drop_is {w : World} {B q s m li : Nat} {hi mi : Int} {l : List It} (h : Ca w B q s m li hi mi l) (k : ByteArray) (hk : k.size ≤ maxLen) :
    Calls Try.prog 16 #[.pointer (some ⟨q, 0, none⟩), .string k] w fun e w' => e = .returned (.bool (isIn k l)) ∧ Ca w' B q s m li hi mi (del k l) ∧ Tch (Foot s m l) w w' := by
  have hL := looked_yes h.at_
  have hR := sremove_is B s m li hi mi l k w h.sh hk
  have fin := fun w' h1 h2 => h.next (w' := w') (hi' := hi) (mi' := mi) (l' := del k l) h1 h2
  clear h hk
  go_enter Try.func16, Try.ntmps16
  go_wp2_with (first
    | (go_at_call 28; refine hL.mono ?_; rintro e w1 ⟨rfl, rfl⟩)
    | (go_at_call 33; refine hR.mono ?_; rintro e2 w2 ⟨rfl, h2, t2⟩))
  go_ret
  exact ⟨rfl, fin _ h2 t2, t2⟩
set_option maxRecDepth 100000 in
set_option maxHeartbeats 1000000 in
theorem Get_is {w : World} {B q s m li : Nat} {hi mi : Int} {l : List It} (h : Ca w B q s m li hi mi l) (k : ByteArray) (hk : k.size ≤ maxLen) :
    Calls Try.prog 12 #[.pointer (some ⟨q, 0, none⟩), .string k] w fun e w' => ∃ u, e = .returned (.tuple #[u, .bool (isIn k l)]) ∧ Own w' w.heap.size u (valC k l) ∧
      Ca w' B q s m li (if isIn k l then IntKind.i64.wrap (hi + 1) else hi) (if isIn k l then mi else IntKind.i64.wrap (mi + 1)) (bump k l) ∧ Tch (Foot s m l) w w' := by
  have hL := looked_yes h.at_
  have c6 : w.cell? ⟨s, 6, none⟩ = some (.map (some m)) := held_cell h.sh.at_ rfl
  have c2 : w.cell? ⟨s, 2, none⟩ = some (.int .i64 hi) := held_cell h.sh.at_ rfl
  have f2 : w.frozen? ⟨s, 2, none⟩ = false := held_frozen h.sh.at_
  have c3 : w.cell? ⟨s, 3, none⟩ = some (.int .i64 mi) := held_cell h.sh.at_ rfl
  have f3 : w.frozen? ⟨s, 3, none⟩ = false := held_frozen h.sh.at_
  rcases h.sh.look k hk with ⟨hin, u, hrun⟩ | ⟨hin, xs, e, ys, rfl, rfl, hrun⟩
  · rw [hin]
    unfold valC bump
    rw [theIt_no hin]
    have hM := h.sh.setMi (IntKind.i64.wrap (mi + 1))
    have fin : Ca _ B q s m li hi (IntKind.i64.wrap (mi + 1)) l := h.next hM.1 hM.2
    have tf := hM.2
    clear h hin hk hM
    generalize hmj : IntKind.i64.wrap (mi + 1) = mj at *
    go_enter Try.func12, Try.ntmps12
    go_wp2_with (go_at_call 28; refine hL.mono ?_; rintro e w1 ⟨rfl, rfl⟩)
    go_ret2
    exact ⟨_, rfl, Own.nil _ _, fin, tf⟩
  · rw [hin]
    unfold valC bump
    rw [theIt_mid h.sh.ks]
    simp only [del_mid h.sh.ks]
    have hM := h.sh.setHi (IntKind.i64.wrap (hi + 1))
    have tm := hM.2
    have hU := suse_is B s m li _ mi xs ys e _ hM.1
    have fin : ∀ w2, Sh w2 B s m li (IntKind.i64.wrap (hi + 1)) mi ((xs ++ ys) ++ [e]) → Tch (Foot s m (xs ++ e :: ys)) (w.setCell ⟨s, 2, none⟩ (.int .i64 (IntKind.i64.wrap (hi + 1)))) w2 →
        ∃ A c, w2.cell? ⟨e.g, 1, none⟩ = some (.slice A e.val.length c) ∧ Calls Try.prog 30 #[.slice A e.val.length c] w2 fun e' w' => ∃ u, e' = .returned u ∧ Own w' w2.heap.size u e.val ∧ Below w2.heap.size w2 w' := by
      intro w2 h2 t2
      obtain ⟨a, b, hn⟩ := h2.ch.node (e := e) (by simp)
      have c1 : w2.cell? ⟨e.g, 1, none⟩ = some e.sv := held_cell hn rfl
      have hC := Clone_any e.sv e.val w2 (h2.vs e (by simp)).rd (by have := h2.small (e := e) (by simp); omega)
      obtain ⟨A, c, hsv, _⟩ := (h2.vs e (by simp)).rd
      rw [hsv] at c1 hC
      exact ⟨A, c, c1, hC⟩
    have fin2 : ∀ w2 w3 u, Sh w2 B s m li (IntKind.i64.wrap (hi + 1)) mi ((xs ++ ys) ++ [e]) → Tch (Foot s m (xs ++ e :: ys)) (w.setCell ⟨s, 2, none⟩ (.int .i64 (IntKind.i64.wrap (hi + 1)))) w2 → Own w3 w2.heap.size u e.val → Below w2.heap.size w2 w3 →
        Own w3 w.heap.size u e.val ∧ Ca w3 B q s m li (IntKind.i64.wrap (hi + 1)) mi ((xs ++ ys) ++ [e]) ∧ Tch (Foot s m (xs ++ e :: ys)) w w3 := by
      intro w2 w3 u h2 t2 o3 b3
      have t3 := (tm.trans t2).trans (Tch.of_below b3)
      exact ⟨o3.mono (tm.trans t2).size, h.next (h2.below b3) t3, t3⟩
    clear h hin hk hM tm
    generalize hhj : IntKind.i64.wrap (hi + 1) = hj at *
    simp only [if_true]
    go_enter Try.func12, Try.ntmps12
    go_wp2_with (first
      | (go_at_call 28; refine hL.mono ?_; rintro e w1 ⟨rfl, rfl⟩)
      | (go_at_call 29; refine hU.mono ?_; rintro e2 w2 ⟨rfl, h2, t2⟩; obtain ⟨A, c, d1, hC⟩ := fin w2 h2 t2)
      | (go_at_call 30; refine hC.mono ?_; rintro e3 w3 ⟨u, rfl, o3, b3⟩))
    go_ret2
    obtain ⟨y1, y2, y3⟩ := fin2 w2 w3 u h2 t2 o3 b3
    exact ⟨u, rfl, y1, y2, y3⟩
end Go.Proofs.Ytflhgoecmcfkkaa
