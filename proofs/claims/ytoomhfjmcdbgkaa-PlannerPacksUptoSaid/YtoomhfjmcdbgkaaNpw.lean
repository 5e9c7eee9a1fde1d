/-
  PlannerPacks: which blocks of any list are packed together, and what some make: the walk. Conditions: the list is no longer than 2^40; a number is one that an int holds.
-/
import Derived.Test.YtoomhfjmcdbgkaaNlo
import Derived.Test.YtoomhfjmcdbgkaaNrq
import Derived.Test.YtoomhfjmcdbgkaaNrj
namespace Go.Proofs.Ytoomhfjmcdbgkaa
open Go.RowKit Go.Icz
theorem RPack_is (v : Value) (l : List MV) (f mb keep now : Int) (w : World) (hR : KRm.Rd w v l) (hlen : l.length ≤ 1099511627776) (hn : now ≤ 9223372036854775807) :
    Calls Try.prog 33 #[v, rulesV f mb keep, .int .i64 now] w fun e w' => ∃ a, PackOf l f mb keep now a ∧ IntsOut w (idsM a) e w' := by
  cases hpk : packsM f mb keep with
  | false =>
    refine (RPack_no v l f mb keep now w hR hlen (.inl hpk)).mono ?_
    rintro e w' ⟨rfl, b⟩
    exact ⟨[], .inl ⟨.inl hpk, rfl⟩, _, rfl, Kd.Own.nil _ _, b⟩
  | true =>
    cases hf : fineM l with
    | false =>
      refine (RPack_no v l f mb keep now w hR hlen (.inr hf)).mono ?_
      rintro e w' ⟨rfl, b⟩
      exact ⟨[], .inl ⟨.inr hf, rfl⟩, _, rfl, Kd.Own.nil _ _, b⟩
    | true =>
      have hpk2 := hpk
      unfold packsM at hpk2
      rw [decide_eq_true_eq] at hpk2
      obtain ⟨fan, rfl⟩ := Int.eq_ofNat_of_zero_le (show 0 ≤ f by omega)
      exact RPack_yes v l fan mb keep now w hR hlen hn hpk hf
set_option maxRecDepth 100000 in
set_option maxHeartbeats 8000000 in
theorem packs_walk (v : Value) (l : List MV) (f mb keep now id : Int) (W : World) (hR : KRm.Rd W v l) (hlen : l.length ≤ 1099511627776) (hwf : ∀ x ∈ l, wfI x.id) (hn : now ≤ 9223372036854775807) :
    Calls Try.prog 5 #[v, rulesV f mb keep, .int .i64 now, .int .i64 id] W fun e w' => e = .returned (.bool true) ∧ Below W.heap.size W w' := by
  have b0 : Below W.heap.size W (W.alloc (.cells #[.int .i64 f, .int .i64 mb, .int .i64 keep] 55)) := (Below.refl _ W).alloc (Nat.le_refl _) _
  have r0 := box_row W #[.int .i64 f, .int .i64 mb, .int .i64 keep] 55
  have cList := List_is v l _ (hR.below b0) hlen
  have cJ := fun u w1 (h : KMet.Rd w1 u l) => Joined_is u l id w1 h hlen hwf
  have cRJ := fun w1 (h : Below W.heap.size W w1) => RJoined_is v l id w1 (hR.below h) hlen
  have cP := fun u w1 (h : KMet.Rd w1 u l) => Pack_is u l f mb keep now w1 h hlen hwf hn
  have cRP := fun w1 (h : Below W.heap.size W w1) => RPack_is v l f mb keep now w1 (hR.below h) hlen hn
  have cSame := fun u w1 (h : KMet.Rd w1 u l) (hW : Below W.heap.size W w1) => same_is u v l w1 h (hR.below hW) hlen
  have HPL := hid (fun a (h : PackOf l f mb keep now a) => h.len)
  have HPO := hid (fun a a' (h : PackOf l f mb keep now a) (k : PackOf l f mb keep now a') => h.one k)
  have HR := hid hR
  obtain ⟨A, c, rfl, _⟩ := hR.form
  clear hR hwf
  have cRl := fun w1 => rules_is f mb keep w1
  obtain ⟨p, hp⟩ : ∃ p, joinM l id = p := ⟨_, rfl⟩
  rw [hp] at cJ cRJ
  clear hp
  obtain ⟨m, ok⟩ := p
  have cO := fun w1 => Own_is m w1
  have hq : ∀ w1, (binOp .eql 28 (metaV m) (metaV m)).run Try.prog w1 = .ok (.bool true) w1 := fun w1 => by rw [eql_meta, decide_eq_true rfl]
  have hok : (ok == ok) = true := by cases ok <;> rfl
  unfold rulesV at cP cRP cRl ⊢
  unfold JoinOut metaV at cJ cRJ
  unfold metaV at cO hq
  simp only at cJ cRJ
  go_enter Try.func5, Try.ntmps5
  go_wp2_with (first
    | (go_at_call 10; go_loud (refine cList.mono ?_; rintro e wx ⟨ux, rfl, ox, bx⟩; have rx := ox.rd; obtain ⟨Ax, cx, rfl, _⟩ := rx.form; have hb := b0.trans (bx.mono b0.size); have r0x := (Tch.of_below bx (S := fun _ => False)).row r0 (fun h => h); clear cList ox r0))
    | (go_at_call 29; go_loud (refine (cJ _ _ rx).mono ?_; rintro e wj ⟨rfl, bj⟩; have hb := hb.trans (bj.mono hb.size); have rx := rx.below bj; have r0j := (Tch.of_below bj (S := fun _ => False)).row r0x (fun h => h); have hba := below_box hb hb.size (.cells #[.int .i64 m.id, .int .i64 m.least, .int .i64 m.most, .int .i64 m.first, .int .i64 m.last, .int .i64 m.rows, .int .i64 m.bytes, .int .i64 m.level] 28); have rxa := rx.alloc (.cells #[.int .i64 m.id, .int .i64 m.least, .int .i64 m.most, .int .i64 m.first, .int .i64 m.last, .int .i64 m.rows, .int .i64 m.bytes, .int .i64 m.level] 28); have r10 := box_row wj #[.int .i64 m.id, .int .i64 m.least, .int .i64 m.most, .int .i64 m.first, .int .i64 m.last, .int .i64 m.rows, .int .i64 m.bytes, .int .i64 m.level] 28; have r0a := row_alloc r0j (.cells #[.int .i64 m.id, .int .i64 m.least, .int .i64 m.most, .int .i64 m.first, .int .i64 m.last, .int .i64 m.rows, .int .i64 m.bytes, .int .i64 m.level] 28); clear cJ r0x r0j))
    | (go_at_call 30; go_loud (refine (cRJ _ hba).mono ?_; rintro e wr ⟨rfl, br⟩; have hbr := hba.trans (br.mono hba.size); have rxr := rxa.below br; have r10r := (Tch.of_below br (S := fun _ => False)).row r10 (fun h => h); have r0r := (Tch.of_below br (S := fun _ => False)).row r0a (fun h => h); clear cRJ r10 r0a rx rxa)))
  have r12 := box_row wr #[.int .i64 m.id, .int .i64 m.least, .int .i64 m.most, .int .i64 m.first, .int .i64 m.last, .int .i64 m.rows, .int .i64 m.bytes, .int .i64 m.level] 32
  have r10b := row_alloc r10r (.cells #[.int .i64 m.id, .int .i64 m.least, .int .i64 m.most, .int .i64 m.first, .int .i64 m.last, .int .i64 m.rows, .int .i64 m.bytes, .int .i64 m.level] 32)
  have r0b := row_alloc r0r (.cells #[.int .i64 m.id, .int .i64 m.least, .int .i64 m.most, .int .i64 m.first, .int .i64 m.last, .int .i64 m.rows, .int .i64 m.bytes, .int .i64 m.level] 32)
  have rxb := rxr.alloc (.cells #[.int .i64 m.id, .int .i64 m.least, .int .i64 m.most, .int .i64 m.first, .int .i64 m.last, .int .i64 m.rows, .int .i64 m.bytes, .int .i64 m.level] 32)
  have hbb := below_box hbr hbr.size (.cells #[.int .i64 m.id, .int .i64 m.least, .int .i64 m.most, .int .i64 m.first, .int .i64 m.last, .int .i64 m.rows, .int .i64 m.bytes, .int .i64 m.level] 32)
  clear r10r r0r rxr
  generalize wr.alloc (.cells #[.int .i64 m.id, .int .i64 m.least, .int .i64 m.most, .int .i64 m.first, .int .i64 m.last, .int .i64 m.rows, .int .i64 m.bytes, .int .i64 m.level] 32) = Wb at *
  have mkS : ∀ w', Below Wb.heap.size Wb w' → Below Wb.heap.size Wb w' ∧ (w'.cell? ⟨W.heap.size, 0, none⟩ = some (.int .i64 f) ∧ w'.cell? ⟨W.heap.size, 1, none⟩ = some (.int .i64 mb) ∧ w'.cell? ⟨W.heap.size, 2, none⟩ = some (.int .i64 keep)) ∧ (w'.cell? ⟨wj.heap.size, 0, none⟩ = some (.int .i64 m.id) ∧ w'.cell? ⟨wj.heap.size, 1, none⟩ = some (.int .i64 m.least) ∧ w'.cell? ⟨wj.heap.size, 2, none⟩ = some (.int .i64 m.most) ∧ w'.cell? ⟨wj.heap.size, 3, none⟩ = some (.int .i64 m.first) ∧ w'.cell? ⟨wj.heap.size, 4, none⟩ = some (.int .i64 m.last) ∧ w'.cell? ⟨wj.heap.size, 5, none⟩ = some (.int .i64 m.rows) ∧ w'.cell? ⟨wj.heap.size, 6, none⟩ = some (.int .i64 m.bytes) ∧ w'.cell? ⟨wj.heap.size, 7, none⟩ = some (.int .i64 m.level)) ∧ w'.cell? ⟨wr.heap.size, 0, none⟩ = some (.int .i64 m.id) ∧ w'.cell? ⟨wr.heap.size, 1, none⟩ = some (.int .i64 m.least) ∧ w'.cell? ⟨wr.heap.size, 2, none⟩ = some (.int .i64 m.most) ∧ w'.cell? ⟨wr.heap.size, 3, none⟩ = some (.int .i64 m.first) ∧ w'.cell? ⟨wr.heap.size, 4, none⟩ = some (.int .i64 m.last) ∧ w'.cell? ⟨wr.heap.size, 5, none⟩ = some (.int .i64 m.rows) ∧ w'.cell? ⟨wr.heap.size, 6, none⟩ = some (.int .i64 m.bytes) ∧ w'.cell? ⟨wr.heap.size, 7, none⟩ = some (.int .i64 m.level) := fun w' h => by
    have k5 := (Tch.of_below h (S := fun _ => False)).row r0b (fun h => h)
    have k10 := Mc.of_row ((Tch.of_below h (S := fun _ => False)).row r10b (fun h => h))
    have k12 := Mc.of_row ((Tch.of_below h (S := fun _ => False)).row r12 (fun h => h))
    exact ⟨h, ⟨held_cell k5 rfl, held_cell k5 rfl, held_cell k5 rfl⟩, ⟨by simpa using (k10).c0, by simpa using (k10).c1, by simpa using (k10).c2, by simpa using (k10).c3, by simpa using (k10).c4, by simpa using (k10).c5, by simpa using (k10).c6, by simpa using (k10).c7⟩, by simpa using (k12).c0, by simpa using (k12).c1, by simpa using (k12).c2, by simpa using (k12).c3, by simpa using (k12).c4, by simpa using (k12).c5, by simpa using (k12).c6, by simpa using (k12).c7⟩
  have hk := mkS Wb.drew (Below.refl _ _).drew
  clear r12 r10b r0b
  have t1 := True.intro
  go_region_held3 (fun w' => Below Wb.heap.size Wb w' ∧ (w'.cell? ⟨W.heap.size, 0, none⟩ = some (.int .i64 f) ∧ w'.cell? ⟨W.heap.size, 1, none⟩ = some (.int .i64 mb) ∧ w'.cell? ⟨W.heap.size, 2, none⟩ = some (.int .i64 keep)) ∧ (w'.cell? ⟨wj.heap.size, 0, none⟩ = some (.int .i64 m.id) ∧ w'.cell? ⟨wj.heap.size, 1, none⟩ = some (.int .i64 m.least) ∧ w'.cell? ⟨wj.heap.size, 2, none⟩ = some (.int .i64 m.most) ∧ w'.cell? ⟨wj.heap.size, 3, none⟩ = some (.int .i64 m.first) ∧ w'.cell? ⟨wj.heap.size, 4, none⟩ = some (.int .i64 m.last) ∧ w'.cell? ⟨wj.heap.size, 5, none⟩ = some (.int .i64 m.rows) ∧ w'.cell? ⟨wj.heap.size, 6, none⟩ = some (.int .i64 m.bytes) ∧ w'.cell? ⟨wj.heap.size, 7, none⟩ = some (.int .i64 m.level)) ∧ w'.cell? ⟨wr.heap.size, 0, none⟩ = some (.int .i64 m.id) ∧ w'.cell? ⟨wr.heap.size, 1, none⟩ = some (.int .i64 m.least) ∧ w'.cell? ⟨wr.heap.size, 2, none⟩ = some (.int .i64 m.most) ∧ w'.cell? ⟨wr.heap.size, 3, none⟩ = some (.int .i64 m.first) ∧ w'.cell? ⟨wr.heap.size, 4, none⟩ = some (.int .i64 m.last) ∧ w'.cell? ⟨wr.heap.size, 5, none⟩ = some (.int .i64 m.rows) ∧ w'.cell? ⟨wr.heap.size, 6, none⟩ = some (.int .i64 m.bytes) ∧ w'.cell? ⟨wr.heap.size, 7, none⟩ = some (.int .i64 m.level)) (exact hk)
    (first
      | (go_at_call 32; refine (cRl _).mono ?_; rintro e w2 ⟨rfl, b2⟩; have hk := mkS _ (hk.1.trans (b2.mono hk.1.size)))
      | (go_at_call 31; refine (cP _ _ (rxb.below hk.1)).mono ?_; rintro e w3 ⟨a1, ha1, u1, rfl, o1, b3⟩; have i1 := o1.rd; obtain ⟨A1, c1, rfl, _⟩ := i1.form; have hk := mkS _ (hk.1.trans (b3.mono hk.1.size)); have HA1 := hid ha1; clear ha1 o1 cP)
      | (go_at_call 33; refine (cRP _ (hbb.trans (hk.1.mono hbb.size))).mono ?_; rintro e w4 ⟨a2, ha2, u2, rfl, o2, b4⟩; obtain rfl := HPO.out _ _ HA1.out ha2; have i2 := o2.rd; obtain ⟨A2, c2, rfl, _⟩ := i2.form; have i1 := i1.below b4; have hk := mkS _ (hk.1.trans (b4.mono hk.1.size)); have hI := ints_eq i1 i2 (by have h9 := HPL.out _ ha2; unfold idsM; rw [List.length_map]; omega); clear ha2 o2 cRP)
      | (go_at_call 23; refine hI.mono ?_; rintro e w5 ⟨rfl, b5⟩; have hk := mkS _ (hk.1.trans (b5.mono hk.1.size)))
      | (go_at_call 15; refine (cO _).mono ?_; rintro e w6 ⟨rfl, b6⟩; have hk := mkS _ (hk.1.trans (b6.mono hk.1.size)))
      | (go_at_call 28; refine (cSame _ _ (rxb.below hk.1) (hbb.trans (hk.1.mono hbb.size))).mono ?_; rintro e w7 ⟨rfl, b7⟩; have hk := mkS _ (hk.1.trans (b7.mono hk.1.size)))
      | (go_at_call 22; refine (knows_is _).mono ?_; rintro e w8 ⟨rfl, b8⟩; have hk := mkS _ (hk.1.trans (b8.mono hk.1.size))))
  go_wp2_with fail
  go_ret
  exact ⟨rfl, hbb.trans (hk.1.mono hbb.size)⟩
end Go.Proofs.Ytoomhfjmcdbgkaa
