/-
  What cache's Put does, with a word on where the new value lies. Conditions: those that the theorem names.
-/
import Derived.Test.YtflhgoecmcfkkaaCop3
namespace Go.Proofs.Ytflhgoecmcfkkaa
open Go.RowKit Go.Icz Go.Maps
set_option maxRecDepth 100000 in
set_option maxHeartbeats 4000000 in
theorem Put_new {w : World} {B q s m li : Nat} {hi mi : Int} {l : List It} (h : Ca w B q s m li hi mi l) (k : ByteArray) (hk : k.size ≤ 1099511627776) (u : Value) (v : List Nat) (hu : Rd w u v) (hv : v.length ≤ 1099511627776) (huF : 0 < v.length → ∀ b, u.ownBlock = some b → ¬ Foot s m l b) :
    Calls Try.prog 15 #[.pointer (some ⟨q, 0, none⟩), .string k, u] w fun e w' => (li < k.size + v.length ∧ e = .returned (.int .i64 6) ∧ Below w.heap.size w w') ∨
      (k.size + v.length ≤ li ∧ e = .returned (.int .i64 0) ∧ ∃ g sv, w.heap.size ≤ g ∧ (∀ b, sv.ownBlock = some b → w.heap.size ≤ b) ∧ Ca w' B q s m li hi mi (putL li k v g sv l) ∧ Tch (Foot s m l) w w') := by
  obtain ⟨A, c, rfl, _⟩ := id hu
  have hM := made_yes h.at_
  have c0 : w.cell? ⟨q, 0, none⟩ = some (.pointer (some ⟨s, 0, none⟩)) := held_cell h.at_ rfl
  have hes := fun w1 => esize_is k A v.length c w1 (by omega) (by omega)
  have hqs : s < w.heap.size := row_lt h.sh.at_
  have d0 : w.cell? ⟨s, 0, none⟩ = some (.int .i64 (li : Int)) := held_cell h.sh.at_ rfl
  have b1 : Below w.heap.size w (w.alloc (.cells #[.string k, .slice A v.length c] 69)) := (Below.refl _ w).alloc (Nat.le_refl _) _
  have hbox := heap_alloc_new w (.cells #[.string k, .slice A v.length c] 69)
  have hlt : w.heap.size < (w.alloc (.cells #[.string k, .slice A v.length c] 69)).heap.size := by simp
  have mkS : ∀ w', Below (w.alloc (.cells #[.string k, .slice A v.length c] 69)).heap.size (w.alloc (.cells #[.string k, .slice A v.length c] 69)) w' → Below (w.alloc (.cells #[.string k, .slice A v.length c] 69)).heap.size (w.alloc (.cells #[.string k, .slice A v.length c] 69)) w' ∧ w'.cell? ⟨w.heap.size, 0, none⟩ = some (.string k) ∧ w'.cell? ⟨w.heap.size, 1, none⟩ = some (.slice A v.length c) ∧ w'.cell? ⟨s, 0, none⟩ = some (.int .i64 (li : Int)) := fun w' hb => by
    have r : w'.heap[w.heap.size]? = some (.cells #[.string k, .slice A v.length c] 69 (0, 0)) := (hb.block _ hlt).trans hbox
    refine ⟨hb, held_cell r rfl, held_cell r rfl, ?_⟩
    exact (hb.cell (p := ⟨s, 0, none⟩) (Nat.lt_trans hqs hlt)).trans ((b1.cell (p := ⟨s, 0, none⟩) hqs).trans d0)
  have hk0 := mkS _ ((Below.refl _ (w.alloc (.cells #[.string k, .slice A v.length c] 69))).drew)
  have hB : B ≤ w.heap.size := Nat.le_of_lt (Nat.lt_of_le_of_lt h.sh.lo.1 hqs)
  have hqn : ∀ w4, (∃ w', Below (w.alloc (.cells #[.string k, .slice A v.length c] 69)).heap.size (w.alloc (.cells #[.string k, .slice A v.length c] 69)) w' ∧ Tch (Foot s m l) w' w4) → w4.cell? ⟨w.heap.size, 0, none⟩ = some (.string k) ∧ w4.cell? ⟨w.heap.size, 1, none⟩ = some (.slice A v.length c) := by
    rintro w4 ⟨w', hb, t4⟩
    have r : w'.heap[w.heap.size]? = some (.cells #[.string k, .slice A v.length c] 69 (0, 0)) := (hb.block _ hlt).trans hbox
    have r4 := t4.row r (fun hf => by have := (h.sh.lt _ hf).2; omega)
    exact ⟨held_cell r4 rfl, held_cell r4 rfl⟩
  have facts : ∀ w', Below (w.alloc (.cells #[.string k, .slice A v.length c] 69)).heap.size (w.alloc (.cells #[.string k, .slice A v.length c] 69)) w' → Below w.heap.size w w' := fun w' hb => b1.trans (hb.mono b1.size)
  have hR := fun w' (hb : Below (w.alloc (.cells #[.string k, .slice A v.length c] 69)).heap.size (w.alloc (.cells #[.string k, .slice A v.length c] 69)) w') => sremove_is B s m li hi mi l k w' (h.sh.below (facts w' hb)) (by unfold maxLen; omega)
  have hSC := fun w1 => sClone_is k (by omega) w1
  have hlim := h.sh.lim
  clear d0 hlt b1 hbox
  generalize hWb : w.alloc (.cells #[.string k, .slice A v.length c] 69) = Wb at *
  by_cases hbig : li < k.size + v.length
  · have hd : decide ((li : Int) < ((k.size + v.length : Nat) : Int)) = true := decide_eq_true (by omega)
    clear hR hqn hu huF hSC hk hv
    generalize k.size + v.length = kv at *
    go_enter Try.func15, Try.ntmps15
    go_wp2_with (go_at_call 31; refine hM.mono ?_; rintro e w1 ⟨rfl, rfl⟩)
    go_region_held3 (fun w' => Below Wb.heap.size Wb w' ∧ w'.cell? ⟨w1.heap.size, 0, none⟩ = some (.string k) ∧ w'.cell? ⟨w1.heap.size, 1, none⟩ = some (.slice A v.length c) ∧ w'.cell? ⟨s, 0, none⟩ = some (.int .i64 (li : Int))) (exact hk0)
      ((go_at_call 32; refine (hes _).mono ?_; rintro e w3 ⟨rfl, b3⟩; have hk0 := mkS _ (hk0.1.trans (b3.mono hk0.1.size))))
    go_wp2
    go_ret
    exact .inl ⟨hbig, rfl, facts _ hk0.1⟩
  · have hkv : k.size + v.length ≤ li := by omega
    have hd : decide ((li : Int) < ((k.size + v.length : Nat) : Int)) = false := decide_eq_false (by omega)
    have hMR : ∀ w5, Sh w5 B s m li hi mi (del k l) → Calls Try.prog 34 #[.pointer (some ⟨s, 0, none⟩), .int .i64 ((k.size + v.length : Nat) : Int)] w5 fun r w' => r = .returned (.tuple #[]) ∧ Sh w' B s m li hi mi (room li (k.size + v.length) (del k l)) ∧ Tch (Foot s m (del k l)) w5 w' :=
      fun w5 h5 => smakeRoom_is B s m li (k.size + v.length) hi mi (del k l) w5 h5 hkv
    have hCl : ∀ w3 w4 w5 w6 w7, Below Wb.heap.size Wb w3 → Tch (Foot s m l) w3 w4 → Below w4.heap.size w4 w5 → Tch (Foot s m (del k l)) w5 w6 → Below w6.heap.size w6 w7 → Tch (Foot s m l) w w7 ∧ Calls Try.prog 30 #[.slice A v.length c] w7 fun e w' => ∃ u, e = .returned u ∧ Own w' w7.heap.size u v ∧ Below w7.heap.size w7 w' := by
      intro w3 w4 w5 w6 w7 b3 t4 b5 t6 b7
      have tt : Tch (Foot s m l) w w7 := ((((Tch.of_below (facts w3 b3)).trans t4).trans (Tch.of_below b5)).trans (t6.mono fun j hj => foot_del hj)).trans (Tch.of_below b7)
      exact ⟨tt, Clone_any _ v w7 (Rd.touch hu tt huF) (by omega)⟩
    have hPut : ∀ w8 A' c', Sh w8 B s m li hi mi (room li (k.size + v.length) (del k l)) → Own w8 B (.slice A' v.length c') v → Calls Try.prog 35 #[.pointer (some ⟨s, 0, none⟩), .agg #[.string k, .slice A' v.length c']] w8 fun r w' => r = .returned (.tuple #[]) ∧ Sh w' B s m li hi mi (room li (k.size + v.length) (del k l) ++ [⟨k, v, w8.heap.size + 1, .slice A' v.length c'⟩]) ∧ Tch (Foot s m (room li (k.size + v.length) (del k l))) w8 w' :=
      fun w8 A' c' h8 o8 => sput_is B s m li hi mi _ k v A' c' w8 h8 (isIn_room (isIn_del k l)) (room_le li _ _ hkv) o8
    have fin : ∀ w7 w8 w9 A' c', Tch (Foot s m l) w w7 → Own w8 w7.heap.size (.slice A' v.length c') v → Below w7.heap.size w7 w8 → Sh w9 B s m li hi mi (room li (k.size + v.length) (del k l) ++ [⟨k, v, w8.heap.size + 1, .slice A' v.length c'⟩]) → Tch (Foot s m (room li (k.size + v.length) (del k l))) w8 w9 →
        ∃ g sv, w.heap.size ≤ g ∧ (∀ b, sv.ownBlock = some b → w.heap.size ≤ b) ∧ Ca w9 B q s m li hi mi (putL li k v g sv l) ∧ Tch (Foot s m l) w w9 := by
      intro w7 w8 w9 A' c' t7 o8 b8 h9 t9
      have tt : Tch (Foot s m l) w w9 := (t7.trans (Tch.of_below b8)).trans (t9.mono fun j hj => foot_del (foot_room hj))
      have := (t7.trans (Tch.of_below b8)).size
      exact ⟨_, _, by omega, fun b hb => by have := (World.ownsRow.lt o8 b hb).1; have := t7.size; omega, h.next h9 tt, tt⟩
    have hw4 : ∀ w4 w5, Sh w4 B s m li hi mi (del k l) → Below w4.heap.size w4 w5 → Sh w5 B s m li hi mi (del k l) := fun w4 w5 h4 b5 => h4.below b5
    clear hu huF hk hv
    generalize k.size + v.length = kv at *
    go_enter Try.func15, Try.ntmps15
    go_wp2_with (go_at_call 31; refine hM.mono ?_; rintro e w1 ⟨rfl, rfl⟩)
    go_region_held3 (fun w' => Below Wb.heap.size Wb w' ∧ w'.cell? ⟨w1.heap.size, 0, none⟩ = some (.string k) ∧ w'.cell? ⟨w1.heap.size, 1, none⟩ = some (.slice A v.length c) ∧ w'.cell? ⟨s, 0, none⟩ = some (.int .i64 (li : Int))) (exact hk0)
      ((go_at_call 32; refine (hes _).mono ?_; rintro e w3 ⟨rfl, b3⟩; have hk0 := mkS _ (hk0.1.trans (b3.mono hk0.1.size))))
    have b3 := hk0.1
    have hR3 := hR _ b3
    have hq3 := fun w4 t4 => hqn w4 ⟨_, b3, t4⟩
    have hC3 := fun w4 w5 w6 w7 => hCl _ w4 w5 w6 w7 b3
    clear hR hqn hCl hk0 mkS facts c0 hM
    have t0 := True.intro
    go_wp2_with (first
      | (go_at_call 33; refine hR3.mono ?_; rintro e4 w4 ⟨rfl, h4, t4⟩; obtain ⟨x0, x1⟩ := hq3 w4 t4; clear hR3)
      | (clear t0; go_at_call 32; refine (hes _).mono ?_; rintro e5 w5 ⟨rfl, b5⟩; have h5 := hw4 _ w5 h4 b5; clear hes x0 x1)
      | (go_at_call 34; refine (hMR _ h5).mono ?_; rintro e6 w6 ⟨rfl, h6, t6⟩; clear hMR)
      | (go_at_call 36; refine (hSC _).mono ?_; rintro e7 w7 ⟨rfl, b7⟩; obtain ⟨t7, hC7⟩ := hC3 w4 w5 w6 w7 t4 b5 t6 b7; clear hSC)
      | (go_at_call 30; refine hC7.mono ?_; rintro e8 w8 ⟨u8, rfl, o8, b8⟩; obtain ⟨A8, c8, rfl, _⟩ := id o8.rd; have h8 := hPut w8 A8 c8 ((h6.below b7).below b8) (o8.mono (Nat.le_trans hB t7.size)); clear hC7 hC3)
      | (go_at_call 35; refine h8.mono ?_; rintro e9 w9 ⟨rfl, h9, t9⟩))
    go_ret
    exact .inr ⟨hkv, rfl, fin w7 w8 w9 A8 c8 t7 o8 b8 h9 t9⟩
end Go.Proofs.Ytflhgoecmcfkkaa
