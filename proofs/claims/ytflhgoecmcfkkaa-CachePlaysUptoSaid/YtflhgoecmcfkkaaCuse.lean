/-
  What cache's shelf.use and shelf.makeRoom do. Conditions: those that each theorem names.
-/
import Derived.Test.YtflhgoecmcfkkaaCrem
import Derived.Deep.LoopGhost
namespace Go.Icz
/-- The items left where what was used first goes, till there is room for n bytes. -/
def room (li n : Nat) : List It → List It
  | [] => []
  | e :: r => if li < tot (e :: r) + n then room li n r else e :: r
theorem room_le (li n : Nat) : ∀ l : List It, n ≤ li → tot (room li n l) + n ≤ li
  | [], h => by simpa [room, tot] using h
  | e :: r, h => by
    unfold room
    split
    · exact room_le li n r h
    · omega
theorem room_suffix (li n : Nat) : ∀ l : List It, ∃ xs, l = xs ++ room li n l
  | [] => ⟨[], rfl⟩
  | e :: r => by
    unfold room
    split
    · obtain ⟨xs, h⟩ := room_suffix li n r
      exact ⟨e :: xs, by rw [List.cons_append, ← h]⟩
    · exact ⟨[], rfl⟩
end Go.Icz
namespace Go.Proofs.Ytflhgoecmcfkkaa
open Go.RowKit Go.Icz Go.Maps
set_option maxRecDepth 100000 in
set_option maxHeartbeats 2000000 in
theorem suse_is (B s m li : Nat) (hi mi : Int) (xs ys : List It) (e : It) (w : World) (h : Sh w B s m li hi mi (xs ++ e :: ys)) :
    Calls Try.prog 29 #[.pointer (some ⟨s, 0, none⟩), .pointer (some ⟨e.g, 0, none⟩)] w fun r w' => r = .returned (.tuple #[]) ∧ Sh w' B s m li hi mi ((xs ++ ys) ++ [e]) ∧ Tch (Foot s m (xs ++ e :: ys)) w w' := by
  have hperm : ((xs ++ ys) ++ [e]).Perm (xs ++ e :: ys) := by
    rw [List.append_assoc]
    exact List.Perm.append_left _ (List.perm_append_singleton e ys)
  have hmem : ∀ x, x ∈ (xs ++ ys) ++ [e] ↔ x ∈ xs ++ e :: ys := fun x => hperm.mem_iff
  have hnd' : (gs ((xs ++ ys) ++ [e])).Nodup := (hperm.map _).nodup_iff.2 h.nd
  have hgm : ∀ k, k ∈ gs ((xs ++ ys) ++ [e]) ↔ k ∈ gs (xs ++ e :: ys) := fun k => (hperm.map _).mem_iff
  have htot : tot ((xs ++ ys) ++ [e]) = tot (xs ++ e :: ys) := by simp only [tot_app, tot_cons]; simp [tot]; omega
  have hsn := h.sn
  have hse : s ≠ e.g := fun hh => h.sn (by rw [hh]; exact mem_gs (by simp))
  have hL : Calls Try.prog 38 #[.pointer (some ⟨s, 4, none⟩), .pointer (some ⟨e.g, 0, none⟩)] w fun r w' => r = .returned (.tuple #[]) ∧ ShAt w' s li (tot (xs ++ e :: ys)) hi mi (xs ++ ys) (.map (some m)) ∧ Chain w' nl (xs ++ ys) nl ∧ (∃ a b, Nd w' e a b) ∧ Tch (fun k => k = s ∨ k ∈ gs (xs ++ ys)) w w' :=
    lremove_is s li (tot (xs ++ e :: ys)) hi mi (.map (some m)) xs ys e w h.at_ h.ch h.nd h.sn
  have hnd1 : (gs (xs ++ ys)).Nodup := by rw [gs_app] at hnd'; exact (List.nodup_append.1 hnd').1
  have heg : e.g ∉ gs (xs ++ ys) := fun hx => by
    rw [gs_app] at hnd'
    exact (List.nodup_append.1 hnd').2.2 _ hx e.g (by simp [gs]) rfl
  have hsn1 : s ∉ gs (xs ++ ys) := fun hx => hsn ((hgm s).1 (by rw [gs_app]; exact List.mem_append.2 (.inl hx)))
  have hA : ∀ w1 x y, ShAt w1 s li (tot (xs ++ e :: ys)) hi mi (xs ++ ys) (.map (some m)) → Chain w1 nl (xs ++ ys) nl → Nd w1 e x y →
      Calls Try.prog 39 #[.pointer (some ⟨s, 4, none⟩), .pointer (some ⟨e.g, 0, none⟩)] w1 fun r w' => r = .returned (.tuple #[]) ∧ ShAt w' s li (tot (xs ++ e :: ys)) hi mi ((xs ++ ys) ++ [e]) (.map (some m)) ∧ Chain w' nl ((xs ++ ys) ++ [e]) nl ∧ Tch (fun k => k = s ∨ k ∈ gs ((xs ++ ys) ++ [e])) w1 w' :=
    fun w1 x y h1 h2 h3 => ladd_is s li (tot (xs ++ e :: ys)) hi mi (.map (some m)) (xs ++ ys) e x y w1 h1 h2 hnd1 hsn1 h3 heg hse
  have fin : ∀ w1 w2, Tch (fun k => k = s ∨ k ∈ gs (xs ++ ys)) w w1 → ShAt w2 s li (tot (xs ++ e :: ys)) hi mi ((xs ++ ys) ++ [e]) (.map (some m)) → Chain w2 nl ((xs ++ ys) ++ [e]) nl → Tch (fun k => k = s ∨ k ∈ gs ((xs ++ ys) ++ [e])) w1 w2 →
      Sh w2 B s m li hi mi ((xs ++ ys) ++ [e]) ∧ Tch (Foot s m (xs ++ e :: ys)) w w2 := by
    intro w1 w2 t1 hs2 hc2 t2
    obtain ⟨hms, hmg⟩ := h.ms
    have t1' : Tch (fun k => k = s ∨ k ∈ gs (xs ++ e :: ys)) w w1 := t1.mono fun j hj => hj.elim .inl fun hx => .inr ((hgm j).1 (by rw [gs_app]; exact List.mem_append.2 (.inl hx)))
    have t2' : Tch (fun k => k = s ∨ k ∈ gs (xs ++ e :: ys)) w1 w2 := t2.mono fun j hj => hj.elim .inl fun hx => .inr ((hgm j).1 hx)
    have tt := t1'.trans t2'
    have tf : Tch (Foot s m (xs ++ e :: ys)) w w2 := tt.mono fun j hj => hj.elim .inl fun hx => .inr (.inr hx)
    obtain ⟨D, ho, ha⟩ := h.mp
    refine ⟨⟨by rw [htot]; exact hs2, hc2, hnd', fun hx => hsn ((hgm s).1 hx), (hperm.map _).nodup_iff.2 h.ks, ⟨D, ?_, ?_⟩, fun x hx => (h.vs x ((hmem x).1 hx)).touch tf h.nb, ⟨h.lo.1, h.lo.2.1, fun x hx => h.lo.2.2 x ((hmem x).1 hx)⟩, by rw [htot]; exact h.le, h.lim⟩, tf⟩
    · rw [hperm.length_eq]
      exact ownsMap_touch ho tt fun hx => hx.elim hms hmg
    · refine ⟨fun k => ?_, fun x hx => ha.at_ x ((hmem x).1 hx), by rw [hperm.length_eq]; exact ha.size⟩
      rw [ha.has]
      unfold isIn
      rw [Bool.eq_iff_iff, List.any_eq_true, List.any_eq_true]
      exact ⟨fun ⟨x, hx, hk⟩ => ⟨x, (hmem x).2 hx, hk⟩, fun ⟨x, hx, hk⟩ => ⟨x, (hmem x).1 hx, hk⟩⟩
  clear h hperm hmem hnd' hgm htot hsn hse hnd1 heg hsn1
  go_enter Try.func29, Try.ntmps29
  go_wp2_with (first
    | (go_at_call 38; refine hL.mono ?_; rintro r w1 ⟨rfl, hs1, hc1, ⟨pa, pb, hn1⟩, k1⟩)
    | (go_at_call 39; refine (hA w1 pa pb hs1 hc1 hn1).mono ?_; rintro r w2 ⟨rfl, hs2, hc2, k2⟩))
  go_end0
  exact ⟨rfl, fin w1 w2 k1 hs2 hc2 k2⟩
theorem sm_drewN (w : World) (k : Nat) : Sm w (w.drewN k) := ⟨rfl, rfl, rfl, Nat.le_refl _, fun _ _ _ => rfl⟩
theorem Sh.drewN {w : World} {B s m li : Nat} {hi mi : Int} {l : List It} (h : Sh w B s m li hi mi l) (k : Nat) : Sh (w.drewN k) B s m li hi mi l := h.touch (sm_drewN w k) (fun _ h => h.elim) (fun _ h => h.elim)
set_option maxRecDepth 100000 in
set_option maxHeartbeats 2000000 in
theorem smakeRoom_is (B s m li n : Nat) (hi mi : Int) (l : List It) (w : World) (h : Sh w B s m li hi mi l) (hn : n ≤ li) :
    Calls Try.prog 34 #[.pointer (some ⟨s, 0, none⟩), .int .i64 (n : Nat)] w fun r w' => r = .returned (.tuple #[]) ∧ Sh w' B s m li hi mi (room li n l) ∧ Tch (Foot s m l) w w' := by
  have hlim := h.lim
  go_enter Try.func34, Try.ntmps34
  go_wp2
  go_loopg [] l.length (fun g wr => ∃ xs l', Aside (l = xs ++ l' ∧ room li n l' = room li n l ∧ g = l'.length) ∧ Sh wr B s m li hi mi l' ∧ Tch (Foot s m l) w wr)
  case atStart => exact ⟨[], l, ⟨rfl, rfl, rfl⟩, h, Tch.refl _ _⟩
  case round =>
    obtain ⟨xs, l', ha, hr, ht⟩ := hrel
    have c0 : wr.cell? ⟨s, 0, none⟩ = some (.int .i64 (li : Int)) := held_cell hr.at_ rfl
    have c1 : wr.cell? ⟨s, 1, none⟩ = some (.int .i64 (tot l' : Nat)) := held_cell hr.at_ rfl
    have c4 : wr.cell? ⟨s, 4, none⟩ = some (hdP l' nl) := held_cell hr.at_ rfl
    have hle := hr.le
    have hwr : IntKind.i64.wrap ((tot l' : Int) + (n : Int)) = ((tot l' + n : Nat) : Int) := by rw [IntKind.wrap_i64]; omega
    by_cases hlt : li < tot l' + n
    · obtain ⟨e, r, rfl⟩ : ∃ e r, l' = e :: r := by
        cases l' with
        | nil => simp [tot] at hlt; omega
        | cons e r => exact ⟨e, r, rfl⟩
      have d0 : wr.cell? ⟨e.g, 0, none⟩ = some (.string e.key) := held_cell hr.ch.1 rfl
      have hR := fun k => sremove_yes B s m li hi mi [] r e (wr.drewN k) (hr.drewN k)
      have hd : decide ((li : Int) < ((tot (e :: r) + n : Nat) : Int)) = true := decide_eq_true (by omega)
      have c4' : wr.cell? ⟨s, 4, none⟩ = some (.pointer (some ⟨e.g, 0, none⟩)) := c4
      clear c4
      have hroom : Aside (room li n r = room li n (e :: r)) := by
        refine Eq.symm ?_
        simp only [room]
        rw [if_pos hlt]
      generalize tot (e :: r) = te at *
      go_wp2
      go_quiet (fail)
      go_wp2_with (go_at_call 33; refine (hR _).mono ?_; rintro r2 w2 ⟨rfl, hs2, k2⟩)
      go_roundg r.length
      case measure => obtain ⟨_, _, h3⟩ := ha.out; rw [h3]; simp
      case rel =>
        obtain ⟨h1, h2, h3⟩ := ha.out
        refine ⟨xs ++ [e], r, ⟨by rw [h1]; simp, ?_, rfl⟩, hs2, ht.trans (Tch.trans (Tch.mono (sm_drewN wr _) fun _ h => h.elim) (k2.mono ?_))⟩
        · rw [← h2]
          exact hroom.out
        · subst h1
          rintro j (hj | hj | hj)
          · exact .inl hj
          · exact .inr (.inl hj)
          · refine .inr (.inr ?_)
            rw [gs_app]
            exact List.mem_append.2 (.inr (List.mem_cons_of_mem _ hj))
    · have hd : decide ((li : Int) < ((tot l' + n : Nat) : Int)) = false := decide_eq_false (by omega)
      have hroom : Aside (room li n l = l') := by
        obtain ⟨_, h2, _⟩ := ha.out
        rw [← show room li n l' = room li n l from h2]
        cases l' with
        | nil => rfl
        | cons e r => simp only [room]; rw [if_neg hlt]; rfl
      generalize tot l' = te at *
      go_wp2
      go_quiet (fail)
      go_wp2
      go_end0
      rw [hroom.out]
      exact ⟨rfl, hr.drewN _, (sm_drewN wr _).out ht⟩
end Go.Proofs.Ytflhgoecmcfkkaa
