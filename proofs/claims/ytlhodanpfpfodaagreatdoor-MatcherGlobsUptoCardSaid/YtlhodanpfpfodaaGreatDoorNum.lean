/-
  The text that matcher's Parse reads: a number; the tables that package matcher and Go's library read. Conditions: those that each theorem names.
-/
import Derived.Test.YtlhodanpfpfodaaGreatDoorOpS
import Derived.Test.YtlhodanpfpfodaaGreatDoorShelfM
import Derived.Lib.LaidTab
namespace Go.Proofs.YtlhodanpfpfodaaGreatDoor
open Go.RowKit Go.Icz
/-- What is asked of the program's tables. -/
structure TabsM (w : World) : Prop where
  tabs : Tabs w
  pow : Lib.TabIs Tryz.prog w "internal/strconv.uint64pow10" .u64 Lib.pow10Tab
  sig : SigAt w
theorem powG : Tryz.prog.globalNamed "internal/strconv.uint64pow10" = some 4 := by kernel_rfl
theorem TabsM.below {w w' : World} (h : TabsM w) (hb : Below w.heap.size w w') : TabsM w' := by
  refine ⟨h.tabs.below hb, ?_, fun i hi => ?_⟩
  · have hp := h.pow
    unfold Lib.TabIs World.var? at *
    rw [powG] at hp ⊢
    simp only [Option.bind_some] at hp ⊢
    have hlt : 4 < w.heap.size := by
      rcases Nat.lt_or_ge 4 w.heap.size with h | h
      · exact h
      · rw [Array.getElem?_eq_none h] at hp; cases hp
    rw [hb.block _ hlt]
    exact hp
  · have h0 := h.sig i hi
    exact (hb.cell (World.block_lt_of_cell? w _ h0)).trans h0
/-- The program's variables lie in the first nine blocks. -/
theorem TabsM.first {w w' : World} (h : TabsM w) (hb : Below 9 w w') : TabsM w' := by
  have c : ∀ (k i : Nat) v, k < 9 → w.cell? ⟨k, i, none⟩ = some v → w'.cell? ⟨k, i, none⟩ = some v := fun k i v hk hc => (hb.cell (p := ⟨k, i, none⟩) hk).trans hc
  obtain ⟨⟨hu, hd, ⟨a, ha, ha2⟩, e, he, he2⟩, hp, hs⟩ := h
  refine ⟨⟨⟨fun k hk => c _ _ _ (by decide) (hu.1 k hk), fun i hi => ⟨c _ _ _ (by decide) (hu.2 i hi).1, c _ _ _ (by decide) (hu.2 i hi).2⟩⟩, c _ _ _ (by decide) hd, ⟨a, c _ _ _ (by decide) ha, ha2⟩, e, c _ _ _ (by decide) he, he2⟩, ?_, fun i hi => c _ _ _ (by decide) (hs i hi)⟩
  unfold Lib.TabIs World.var? at *
  rw [powG] at hp ⊢
  simp only [Option.bind_some] at hp ⊢
  rw [hb.block _ (by decide)]
  exact hp
theorem TabsM.touch {S : Nat → Prop} {w w' : World} (h : TabsM w) (k : Tch S w w') (hS : ∀ j, S j → 9 ≤ j) (h9 : 9 ≤ w.heap.size) : TabsM w' :=
  h.first (Tch.below (Below.refl 9 w) k hS h9)
theorem below_grow {w : World} {n : Nat} {os : Array Obj} : Below w.heap.size w (Go.Sort.grow (w.drewN n) os) :=
  ⟨rfl, rfl, rfl, by show w.heap.size ≤ (w.heap ++ os).size; rw [Array.size_append]; omega, fun _ hj => Go.Sort.heap_grow_old (w.drewN n) os hj⟩
set_option maxRecDepth 100000 in
theorem Itoa_is (n : Int) (h0 : -9223372036854775808 ≤ n) (h1 : n ≤ 9223372036854775807) (w : World) (hT : TabsM w) :
    Calls Tryz.prog 65 #[.int .i64 n] w fun e w' => e = .returned (.string ⟨(Lib.itoa n).toArray⟩) ∧ Below w.heap.size w w' := by
  have hI := Any.internal_strconv_FormatInt_10 { Tryz.laysM173 with } n h0 h1 w hT.pow
  go_enter Tryz.func65, Tryz.ntmps65
  go_wp2_with (first
    | (go_at_call 99; go_in)
    | (go_at_call 124; refine hI.mono ?_; rintro e w1 ⟨rfl, k, os, rfl⟩))
  go_ret
  exact ⟨rfl, below_grow⟩
/-- A digit. -/
def dch (b : UInt8) : Bool := digit b.toNat
theorem dch_set (c : UInt8) : ([48, 49, 50, 51, 52, 53, 54, 55, 56, 57] : B8).contains c = dch c := by
  have h := (show ∀ x : Fin 256, ([48, 49, 50, 51, 52, 53, 54, 55, 56, 57] : B8).contains (UInt8.ofNat x.val) = dch (UInt8.ofNat x.val) by decide +kernel) ⟨c.toNat, c.toNat_lt⟩
  simpa using h
/-- What number makes of the digits that stand there. -/
def numV (D : B8) : Int × Bool := match Lib.atoiAll D with
  | .ok v => (v, decide (Lib.itoa v = D))
  | .range => (Lib.atoiSat D, false)
  | _ => (0, false)
theorem trim_digits (l : B8) : Lib.trimLeftS l [48, 49, 50, 51, 52, 53, 54, 55, 56, 57] = l.dropWhile dch := by
  unfold Lib.trimLeftS
  congr 1
  funext c
  exact dch_set c
theorem x256 : (Tryz.prog.info? (Tryz.lays161_ren.t 116)).map (fun i => (i.zero, i.size)) = some (some (.agg (Array.replicate 256 (.bool false))), 256) := by kernel_rfl
theorem TrimDigits (l : B8) (w : World) : Calls Tryz.prog 73 #[.string ⟨l.toArray⟩, .string ⟨#[48, 49, 50, 51, 52, 53, 54, 55, 56, 57]⟩] w fun e w' => e = .returned (.string ⟨(l.dropWhile dch).toArray⟩) ∧ Below w.heap.size w w' := by
  have h := Any.strings_TrimLeft_laid Tryz.lays161 x256 ⟨l.toArray⟩ ⟨#[48, 49, 50, 51, 52, 53, 54, 55, 56, 57]⟩ w (by decide) (Go.Proofs.ascii_of_all (by decide))
  have e : Lib.trimLeftS (⟨l.toArray⟩ : ByteArray).data.toList (⟨#[48, 49, 50, 51, 52, 53, 54, 55, 56, 57]⟩ : ByteArray).data.toList = l.dropWhile dch := trim_digits l
  rw [e] at h
  exact h
theorem below_bytes (w : World) (t : TypeId) (s : ByteArray) : Below w.heap.size w (Lib.bytesWorld w t s) :=
  ⟨rfl, rfl, rfl, by rw [Lib.bytesWorld_size]; omega, fun j hj => Lib.bytesWorld_at_old w t s j hj⟩
set_option maxHeartbeats 2000000 in
set_option maxRecDepth 100000 in
theorem Tnumber_is (g b i : Nat) (l : B8) (cs : Array Value) (t : TypeId) (v0 : Int) (w : World) (h : TxAt w g l) (hr : w.heap[b]? = some (.cells cs t (0, 0))) (hi : cs[i]? = some (.int .i64 v0)) (hne : b ≠ g) (hl : l.length ≤ 1099511627776) (hT : TabsM w) (h9 : 9 ≤ g) (hb9 : 9 ≤ b) :
    Calls Tryz.prog 95 #[.pointer (some ⟨g, 0, none⟩), .pointer (some ⟨b, i, none⟩)] w fun e w' => e = .returned (.bool (numV (l.takeWhile dch)).2) ∧ TxAt w' g (l.dropWhile dch) ∧ w'.heap[b]? = some (.cells (cs.setIfInBounds i (.int .i64 (numV (l.takeWhile dch)).1)) t (0, 0)) ∧ Tch (fun k => k = g ∨ k = b) w w' := by
  have hTr := TrimDigits l w
  have hsp : l = l.takeWhile dch ++ l.dropWhile dch := List.takeWhile_append_dropWhile.symm
  have hlen : l.length = (l.takeWhile dch).length + (l.dropWhile dch).length := by
    have := congrArg List.length hsp
    rwa [List.length_append] at this
  have hex : (⟨l.toArray⟩ : ByteArray).extract 0 (l.takeWhile dch).length = ⟨(l.takeWhile dch).toArray⟩ := by
    have := Lib.extract_upto ⟨l.toArray⟩ (l.takeWhile dch).length
    rw [this]
    congr 2
    conv => lhs; rw [show (⟨l.toArray⟩ : ByteArray).data.toList = l from rfl, hsp]
    rw [List.take_left']
    rw [← hsp]
  have HL := hid hlen
  have c0 := h.cell
  have hlt := h.lt
  have hblt := (Array.getElem?_eq_some_iff.1 hr).1
  clear hsp
  generalize l.takeWhile dch = D at *
  generalize l.dropWhile dch = m at *
  have hw : IntKind.i64.wrap ((l.length : Int) - (m.length : Int)) = (D.length : Int) := by
    rw [IntWalk.i64_in _ (by omega)]; omega
  have cells : ∀ w1, Below w.heap.size w w1 → w1.cell? ⟨g, 0, none⟩ = some (.string ⟨l.toArray⟩) ∧ w1.frozen? ⟨g, 0, none⟩ = false ∧ w1.cell? ⟨b, i, none⟩ = some (.int .i64 v0) ∧ w1.frozen? ⟨b, i, none⟩ = false := fun w1 b1 =>
    ⟨TxAt.cell ((b1.block g hlt).trans h), TxAt.frozen ((b1.block g hlt).trans h), held_cell ((b1.block b hblt).trans hr) hi, held_frozen ((b1.block b hblt).trans hr)⟩
  have fin : ∀ (v : Int) w1, Below w.heap.size w w1 → TxAt ((w1.setCell ⟨b, i, none⟩ (.int .i64 v)).setCell ⟨g, 0, none⟩ (.string ⟨m.toArray⟩)) g m ∧ ((w1.setCell ⟨b, i, none⟩ (.int .i64 v)).setCell ⟨g, 0, none⟩ (.string ⟨m.toArray⟩)).heap[b]? = some (.cells (cs.setIfInBounds i (.int .i64 v)) t (0, 0)) ∧ Tch (fun k => k = g ∨ k = b) w ((w1.setCell ⟨b, i, none⟩ (.int .i64 v)).setCell ⟨g, 0, none⟩ (.string ⟨m.toArray⟩)) := fun v w1 b1 => by
    have r1 := (b1.block b hblt).trans hr
    have r2 := row_set (i := i) r1 (.int .i64 v)
    have a1 : TxAt w1 g l := (b1.block g hlt).trans h
    have a2 : TxAt (w1.setCell ⟨b, i, none⟩ (.int .i64 v)) g l := a1.touch (S := (· = b)) (Tch.set _ _ _ _ rfl) (by omega)
    exact ⟨a2.set m, (Tch.set (· = g) _ ⟨g, 0, none⟩ _ rfl).row r2 (by omega), (Tch.of_below b1).trans ((Tch.set _ _ _ _ (.inr rfl)).trans (Tch.set _ _ _ _ (.inl rfl)))⟩
  have b2t : ∀ w1, Below w.heap.size w w1 → Below w.heap.size w w1.drew := fun w1 b1 => b1.drew
  have hDl : D.length ≤ 1099511627776 := by omega
  have hsD : (⟨D.toArray⟩ : ByteArray).size ≤ 1099511627776 := by rw [Lib.size_mk]; exact hDl
  have hD : D.length ≤ l.length := by omega
  unfold numV
  cases ha : Lib.atoiAll D with
  | ok v =>
    have hvb := Lib.atoiAll_bounds ha
    have hAt := fun w2 => Any.strconv_Atoi_ok Tryz.laysC172 ⟨D.toArray⟩ (by omega) v ha w2
    have hIt := fun w2 (hb : Tch (fun k => k = g ∨ k = b) w w2) => Itoa_is v hvb.1 hvb.2 w2 (hT.touch hb (fun j hj => by rcases hj with rfl | rfl <;> assumption) (by omega))
    simp only []
    have hAt2 : ∀ w2, Below w.heap.size w w2 → Calls Tryz.prog 122 #[.string ⟨D.toArray⟩] w2 fun e w' => e = .returned (.tuple #[.int .i64 v, .nilIface]) ∧ Below w.heap.size w w' := fun w2 hb => (hAt w2).mono (by
      rintro e w' ⟨he, hw | ⟨t, hw⟩⟩
      · rw [hw]; exact ⟨he, hb⟩
      · rw [hw]; exact ⟨he, hb.trans ((below_bytes _ _ _).mono hb.size)⟩)
    clear hAt ha hsD hlen hvb
    by_cases hq : Lib.itoa v = D
    · rw [hq] at hIt
      have hd : decide (Lib.itoa v = D) = true := decide_eq_true hq
      rw [hd]
      clear hq hd
      go_enter Tryz.func95, Tryz.ntmps95
      go_wp2_with (go_at_call 73; refine hTr.mono ?_; rintro e w1 ⟨rfl, b1⟩; obtain ⟨d0, d1, d2, d3⟩ := cells w1 b1; clear hTr)
      go_region
      have b2 := b2t w1 b1
      go_wp2_with (first
        | (go_at_call 122; refine (hAt2 _ b2).mono ?_; rintro e w3 ⟨rfl, b3⟩; have f3 := fin v w3 b3; obtain ⟨e0, e1, e2, e3⟩ := cells w3 b3; clear hAt2 fin)
        | (go_at_call 65; refine (hIt _ f3.2.2).mono ?_; rintro e w4 ⟨rfl, b4⟩; clear hIt))
      go_ret
      exact ⟨rfl, (b4.block g (by have := f3.1.lt; exact this)).trans f3.1, (b4.block b (Array.getElem?_eq_some_iff.1 f3.2.1).1).trans f3.2.1, f3.2.2.trans (Tch.of_below b4)⟩
    · have hd : decide (Lib.itoa v = D) = false := decide_eq_false hq
      have hne2 : (Lib.itoa v == D) = false := beq_eq_false_iff_ne.2 hq
      rw [hd]
      clear hq hd
      go_enter Tryz.func95, Tryz.ntmps95
      go_wp2_with (go_at_call 73; refine hTr.mono ?_; rintro e w1 ⟨rfl, b1⟩; obtain ⟨d0, d1, d2, d3⟩ := cells w1 b1; clear hTr)
      go_region
      have b2 := b2t w1 b1
      go_wp2_with (first
        | (go_at_call 122; refine (hAt2 _ b2).mono ?_; rintro e w3 ⟨rfl, b3⟩; have f3 := fin v w3 b3; obtain ⟨e0, e1, e2, e3⟩ := cells w3 b3; clear hAt2 fin)
        | (go_at_call 65; refine (hIt _ f3.2.2).mono ?_; rintro e w4 ⟨rfl, b4⟩; clear hIt))
      go_ret
      exact ⟨by rfl, (b4.block g (by have := f3.1.lt; exact this)).trans f3.1, (b4.block b (Array.getElem?_eq_some_iff.1 f3.2.1).1).trans f3.2.1, f3.2.2.trans (Tch.of_below b4)⟩
  | range =>
    obtain ⟨ev, hv1, hv2⟩ := hT.tabs.err.rng
    have hAt2 : ∀ w2, Below w.heap.size w w2 → Calls Tryz.prog 122 #[.string ⟨D.toArray⟩] w2 fun e w' => (∃ te pe, e = .returned (.tuple #[.int .i64 (Lib.atoiSat D), .iface te pe])) ∧ Below w.heap.size w w' := fun w2 hb => (Any.strconv_Atoi_range Tryz.laysC172 ⟨D.toArray⟩ (by omega) ha ev w2 ((hb.cell (World.block_lt_of_cell? w _ hv1)).trans hv1) hv2).mono (by
      rintro e w' ⟨N, he, _, _, hb'⟩
      exact ⟨⟨_, _, he⟩, hb.trans (hb'.mono hb.size)⟩)
    simp only []
    clear ha hsD hlen hv1 hv2
    generalize Lib.atoiSat D = v at *
    go_enter Tryz.func95, Tryz.ntmps95
    go_wp2_with (go_at_call 73; refine hTr.mono ?_; rintro e w1 ⟨rfl, b1⟩; obtain ⟨d0, d1, d2, d3⟩ := cells w1 b1; clear hTr)
    go_region
    have b2 := b2t w1 b1
    go_wp2_with (first
      | (go_at_call 122; refine (hAt2 _ b2).mono ?_; rintro e w3 ⟨⟨te, pe, rfl⟩, b3⟩; have f3 := fin v w3 b3; obtain ⟨e0, e1, e2, e3⟩ := cells w3 b3; clear hAt2 fin))
    go_ret
    exact ⟨by rfl, f3.1, f3.2.1, f3.2.2⟩
  | _ =>
    obtain ⟨ev, hv1, hv2⟩ := hT.tabs.err.syn
    have hAt2 : ∀ w2, Below w.heap.size w w2 → Calls Tryz.prog 122 #[.string ⟨D.toArray⟩] w2 fun e w' => (∃ te pe, e = .returned (.tuple #[.int .i64 0, .iface te pe])) ∧ Below w.heap.size w w' := fun w2 hb => (Any.strconv_Atoi_syntax Tryz.laysC172 ⟨D.toArray⟩ (by omega) ha ev w2 ((hb.cell (World.block_lt_of_cell? w _ hv1)).trans hv1) hv2).mono (by
      rintro e w' ⟨N, he, _, _, hb'⟩
      exact ⟨⟨_, _, he⟩, hb.trans (hb'.mono hb.size)⟩)
    simp only []
    clear ha hsD hlen hv1 hv2
    go_enter Tryz.func95, Tryz.ntmps95
    go_wp2_with (go_at_call 73; refine hTr.mono ?_; rintro e w1 ⟨rfl, b1⟩; obtain ⟨d0, d1, d2, d3⟩ := cells w1 b1; clear hTr)
    go_region
    have b2 := b2t w1 b1
    go_wp2_with (first
      | (go_at_call 122; refine (hAt2 _ b2).mono ?_; rintro e w3 ⟨⟨te, pe, rfl⟩, b3⟩; have f3 := fin 0 w3 b3; obtain ⟨e0, e1, e2, e3⟩ := cells w3 b3; clear hAt2 fin))
    go_ret
    exact ⟨by rfl, f3.1, f3.2.1, f3.2.2⟩
end Go.Proofs.YtlhodanpfpfodaaGreatDoor
