/-
  The reference's reader of texts, a place in a text that goes on: blanks, a sign, a word, a quoted text. Conditions: the reader lies in a block of its own; its place is in the text.
-/
import Derived.Test.YthgmmloocdfphaaGreatDoorGet
import Derived.Test.YthgmmloocdfphaaGreatDoorRUnq
import Derived.Test.YthgmmloocdfphaaGreatDoorTMath
import Derived.Deep.QuietTactic
import Derived.BigQuiet
import Derived.Deep.RegionHeld3
namespace Go.Icz
open Go.RowKit
/-- A reader in block g: its text, its place. -/
def ScanAt (w : World) (g : Nat) (s : ByteArray) (a : Nat) : Prop :=
  g < w.heap.size ∧ a ≤ s.size ∧ w.cell? ⟨g, 0, none⟩ = some (.string s) ∧ w.cell? ⟨g, 1, none⟩ = some (.int .i64 (a : Int)) ∧ w.frozen? ⟨g, 1, none⟩ = false
theorem ScanAt.set {w : World} {g : Nat} {s : ByteArray} {a : Nat} (h : ScanAt w g s a) (a2 : Nat) (ha : a2 ≤ s.size) : ScanAt (w.setCell ⟨g, 1, none⟩ (.int .i64 (a2 : Int))) g s a2 := by
  obtain ⟨h1, h2, c0, c1, f1⟩ := h
  refine ⟨by simpa using h1, ha, ?_, World.cell?_setCell_same' w _ _ (by rw [c1]; rfl), by simpa using f1⟩
  rw [World.cell?_setCell_other _ _ _ _ (by simp)]; exact c0
theorem ScanAt.below {w w' : World} {g : Nat} {s : ByteArray} {a : Nat} (h : ScanAt w g s a) (hb : Below w.heap.size w w') : ScanAt w' g s a := by
  obtain ⟨h1, h2, c0, c1, f1⟩ := h
  exact ⟨Nat.lt_of_lt_of_le h1 hb.size, h2, (hb.cell (p := ⟨g, 0, none⟩) h1).trans c0, (hb.cell (p := ⟨g, 1, none⟩) h1).trans c1, (hb.frozen (p := ⟨g, 1, none⟩) h1).trans f1⟩
theorem ScanAt.alloc {w : World} {g : Nat} {s : ByteArray} {a : Nat} (h : ScanAt w g s a) (o : Obj) : ScanAt (w.alloc o) g s a := h.below ((Below.refl _ _).alloc (Nat.le_refl _) _)
def placeOf (w : World) (g : Nat) : Nat := match w.cell? ⟨g, 1, none⟩ with | some v => (intOf v).toNat | none => 0
theorem ScanAt.place {w : World} {g : Nat} {s : ByteArray} {a : Nat} (h : ScanAt w g s a) : placeOf w g = a := by
  obtain ⟨_, _, _, c1, _⟩ := h
  unfold placeOf
  rw [c1]
  simp [intOf]
theorem drop_at {s : ByteArray} {a : Nat} (h : a < s.size) : s.data.toList.drop a = s[a] :: s.data.toList.drop (a + 1) := by
  have h2 : a < s.data.toList.length := by rw [Array.length_toList]; exact h
  rw [List.drop_eq_getElem_cons h2]
  rfl
theorem gset (w : World) (g o : Nat) (u : Value) : w.grownBy (w.setCell ⟨g, o, none⟩ u) (some g) := by
  refine ⟨rfl, rfl, rfl, by simp [World.setCell], fun k _ hk => ?_⟩
  have hne : k ≠ g := fun e => hk (by rw [e])
  exact Below.heap_setCell _ _ _ _ hne
theorem gdrew (w : World) (n : Nat) (row : Option Nat) : w.grownBy (w.drewN n) row := ⟨rfl, rfl, rfl, Nat.le_refl _, fun _ _ _ => rfl⟩
theorem gbelow {w w' : World} {row : Option Nat} (h : Below w.heap.size w w') : w.grownBy w' row := ⟨h.os, h.tape, h.output, h.size, fun k hk _ => h.block k hk⟩
end Go.Icz
namespace Go.Proofs.YthgmmloocdfphaaGreatDoor
open Go.RowKit Go.Icz
theorem b32 {b : UInt8} : b = 32 ↔ b.toNat = 32 := toNat_lit (n := 32) (by omega)
set_option maxHeartbeats 1000000 in
set_option maxRecDepth 100000 in
theorem Blanks_is (g a : Nat) (s : ByteArray) (w : World) (h : ScanAt w g s a) (hs : s.size ≤ 140737488355328) :
    Calls Tryz.prog 36 #[.pointer (some ⟨g, 0, none⟩)] w fun e w' => e = .returned (.tuple #[]) ∧ w.grownBy w' (some g) ∧ ∃ a', ScanAt w' g s a' ∧ s.data.toList.drop a' = trimL (s.data.toList.drop a) := by
  go_enter Tryz.func36, Tryz.ntmps36
  go_wp2_with fail
  go_loopw [] (fun wr => ∃ a', ScanAt wr g s a' ∧ w.grownBy wr (some g) ∧ Hid (trimL (s.data.toList.drop a') = trimL (s.data.toList.drop a))) (fun wr => s.size - placeOf wr g)
  case atStart => exact ⟨a, h, World.grownBy.refl _ _, hid rfl⟩
  case round =>
    obtain ⟨a', hA, hg, HT⟩ := hrel
    have hpl := hA.place
    obtain ⟨h1, h2, c0, c1, f1⟩ := id hA
    by_cases hlt : a' < s.size
    · have d1 : decide (a' < s.size) = true := decide_eq_true hlt
      have hd := drop_at hlt
      by_cases h32 : (s[a']).toNat = 32
      · have e1 : (((s[a']).toNat : Int) == 32) = true := by simp; omega
        have HT2 : Hid (trimL (s.data.toList.drop (a' + 1)) = trimL (s.data.toList.drop a)) := hid (by rw [← HT.out, hd, b32.2 h32, trimL_blank])
        have hset := fun n => ScanAt.set (w := wr.drewN n) hA (a' + 1) (by omega)
        clear HT hd h32 h
        go_wp2_with fail
        go_quiet (fail)
        go_wp2_with fail
        have hs2 := hset nq
        refine ⟨⟨a' + 1, hs2, hg.trans ((gdrew _ _ _).trans (gset _ _ _ _)), HT2⟩, ?_⟩
        have := hs2.place
        rw [hpl]
        push_cast at this
        rw [this]
        omega
      · have e1 : (((s[a']).toNat : Int) == 32) = false := by simp; omega
        have HT2 : Hid (s.data.toList.drop a' = trimL (s.data.toList.drop a)) := hid (by rw [← HT.out, hd, trimL_head (fun e => h32 (b32.1 e))])
        clear HT hd h32 h
        go_wp2_with fail
        go_quiet (fail)
        go_wp2_with fail
        exact bodyPost_end (v := .tuple #[]) (by simp [results, Tryz.results36, go_sem]) rfl ⟨rfl, hg.trans (gdrew _ _ _), a', hA, HT2.out⟩
    · have d1 : decide (a' < s.size) = false := decide_eq_false hlt
      have HT2 : Hid (s.data.toList.drop a' = trimL (s.data.toList.drop a)) := hid (by rw [← HT.out, drop_end hlt]; rfl)
      clear HT h
      go_wp2_with fail
      go_quiet (fail)
      go_wp2_with fail
      exact bodyPost_end (v := .tuple #[]) (by simp [results, Tryz.results36, go_sem]) rfl ⟨rfl, hg.trans (gdrew _ _ _), a', hA, HT2.out⟩
set_option maxHeartbeats 1000000 in
set_option maxRecDepth 100000 in
theorem Is_yes (g a x : Nat) (s : ByteArray) (w : World) (h : ScanAt w g s a) (hs : s.size ≤ 140737488355328) (hlt : a < s.size) (hx : (s[a]).toNat = x) :
    Calls Tryz.prog 37 #[.pointer (some ⟨g, 0, none⟩), .int .u8 x] w fun e w' => e = .returned (.bool true) ∧ w.grownBy w' (some g) ∧ ScanAt w' g s (a + 1) := by
  obtain ⟨h1, h2, c0, c1, f1⟩ := id h
  have d1 : decide (a < s.size) = true := decide_eq_true hlt
  have e1 : (((s[a]).toNat : Int) == x) = true := by simp; omega
  have hset := fun n => ScanAt.set (w := w.drewN n) h (a + 1) (by omega)
  clear hx h
  go_enter Tryz.func37, Tryz.ntmps37
  go_wp2_with fail
  go_quiet (fail)
  go_wp2_with fail
  go_ret
  exact ⟨rfl, (gdrew _ _ _).trans (gset _ _ _ _), hset nq⟩
set_option maxHeartbeats 1000000 in
set_option maxRecDepth 100000 in
theorem Is_no (g a x : Nat) (s : ByteArray) (w : World) (h : ScanAt w g s a) (_hs : s.size ≤ 140737488355328) (hx : ∀ hlt : a < s.size, (s[a]).toNat ≠ x) :
    Calls Tryz.prog 37 #[.pointer (some ⟨g, 0, none⟩), .int .u8 x] w fun e w' => e = .returned (.bool false) ∧ w.grownBy w' (some g) ∧ ScanAt w' g s a := by
  obtain ⟨h1, h2, c0, c1, f1⟩ := id h
  by_cases hlt : a < s.size
  · have d1 : decide (a < s.size) = true := decide_eq_true hlt
    have e1 : (((s[a]).toNat : Int) == x) = false := by have := hx hlt; simp; omega
    clear hx
    go_enter Tryz.func37, Tryz.ntmps37
    go_wp2_with fail
    go_quiet (fail)
    go_wp2_with fail
    go_ret
    exact ⟨rfl, gdrew _ _ _, h⟩
  · have d1 : decide (a < s.size) = false := decide_eq_false hlt
    clear hx
    go_enter Tryz.func37, Tryz.ntmps37
    go_wp2_with fail
    go_quiet (fail)
    go_wp2_with fail
    go_ret
    exact ⟨rfl, gdrew _ _ _, h⟩
/-- What Is answers of the sign x: whether it stands there. -/
theorem Is_is (g a : Nat) (x : UInt8) (s : ByteArray) (w : World) (h : ScanAt w g s a) (hs : s.size ≤ 140737488355328) :
    Calls Tryz.prog 37 #[.pointer (some ⟨g, 0, none⟩), .int .u8 x.toNat] w fun e w' => w.grownBy w' (some g) ∧
      ((∃ t, s.data.toList.drop a = x :: t ∧ e = .returned (.bool true) ∧ ScanAt w' g s (a + 1) ∧ s.data.toList.drop (a + 1) = t) ∨ ((∀ t, s.data.toList.drop a ≠ x :: t) ∧ e = .returned (.bool false) ∧ ScanAt w' g s a)) := by
  by_cases hx : ∃ hlt : a < s.size, (s[a]).toNat = x.toNat
  · obtain ⟨hlt, hx⟩ := hx
    refine (Is_yes g a x.toNat s w h hs hlt hx).mono ?_
    rintro e w' ⟨h1, h2, h3⟩
    exact ⟨h2, .inl ⟨_, by rw [drop_at hlt, UInt8.toNat_inj.1 hx], h1, h3, rfl⟩⟩
  · refine (Is_no g a x.toNat s w h hs fun hlt e => hx ⟨hlt, e⟩).mono ?_
    rintro e w' ⟨h1, h2, h3⟩
    refine ⟨h2, .inr ⟨fun t ht => ?_, h1, h3⟩⟩
    by_cases hlt : a < s.size
    · rw [drop_at hlt] at ht
      injection ht with e1 e2
      exact hx ⟨hlt, by rw [e1]⟩
    · rw [drop_end hlt] at ht
      cases ht
set_option maxHeartbeats 2000000 in
set_option maxRecDepth 100000 in
theorem Word_is (g a : Nat) (s : ByteArray) (w : World) (h : ScanAt w g s a) (hs : s.size ≤ 140737488355328) :
    Calls Tryz.prog 38 #[.pointer (some ⟨g, 0, none⟩)] w fun e w' => e = .returned (.string ⟨((s.data.toList.drop a).takeWhile wordch).toArray⟩) ∧ w.grownBy w' (some g) ∧ ∃ a', ScanAt w' g s a' ∧ s.data.toList.drop a' = (s.data.toList.drop a).dropWhile wordch := by
  obtain ⟨g1, g2, k0, k1, k2⟩ := id h
  go_enter Tryz.func38, Tryz.ntmps38
  go_wp2_with fail
  clear g1 k0 k1 k2
  go_loopw [] (fun wr => ∃ a', a ≤ a' ∧ ScanAt wr g s a' ∧ w.grownBy wr (some g) ∧ Hid ((s.data.toList.drop a').dropWhile wordch = (s.data.toList.drop a).dropWhile wordch ∧ (s.data.toList.drop a).takeWhile wordch = (s.extract a a').data.toList ++ (s.data.toList.drop a').takeWhile wordch)) (fun wr => s.size - placeOf wr g)
  case atStart => exact ⟨a, Nat.le_refl _, h, World.grownBy.refl _ _, hid ⟨rfl, by simp⟩⟩
  case round =>
    obtain ⟨a', ha, hA, hg, HT⟩ := hrel
    have hpl := hA.place
    obtain ⟨h1, h2, c0, c1, f1⟩ := id hA
    have stop : Hid ((∀ b u, s.data.toList.drop a' = b :: u → wordch b = false) → (s.extract a a') = ⟨((s.data.toList.drop a).takeWhile wordch).toArray⟩ ∧ s.data.toList.drop a' = (s.data.toList.drop a).dropWhile wordch) := hid (fun hn => by
      obtain ⟨t1, t2⟩ := HT.out
      cases hc : s.data.toList.drop a' with
      | nil =>
        rw [hc] at t1 t2
        refine ⟨?_, by rw [← t1]; rfl⟩
        rw [t2]
        simp only [List.takeWhile_nil, List.append_nil]
      | cons b u =>
        have hb := hn b u hc
        rw [hc] at t1 t2
        rw [List.takeWhile_cons, hb] at t2
        rw [List.dropWhile_cons, hb] at t1
        simp only [Bool.false_eq_true, if_false] at t1 t2
        refine ⟨?_, t1⟩
        rw [t2]
        simp only [List.append_nil])
    by_cases hlt : a' < s.size
    · have d1 : decide (a' < s.size) = true := decide_eq_true hlt
      have hd := drop_at hlt
      have hset := fun n => ScanAt.set (w := wr.drewN n) hA (a' + 1) (by omega)
      have hL := fun w => letter_is (s[a']).toNat w
      have hD := fun w => digit_is (s[a']).toNat w
      have HT2 : wordch s[a'] = true → Hid ((s.data.toList.drop (a' + 1)).dropWhile wordch = (s.data.toList.drop a).dropWhile wordch ∧ (s.data.toList.drop a).takeWhile wordch = (s.extract a (a' + 1)).data.toList ++ (s.data.toList.drop (a' + 1)).takeWhile wordch) := fun hw => hid (by
        obtain ⟨t1, t2⟩ := HT.out
        rw [hd, List.dropWhile_cons, if_pos hw] at t1
        rw [hd, List.takeWhile_cons, if_pos hw] at t2
        refine ⟨t1, ?_⟩
        rw [t2]
        have e : (s.extract a (a' + 1)).data.toList = (s.extract a a').data.toList ++ [s[a']] := by
          simp only [ByteArray.data_extract, Array.toList_extract, List.extract_eq_take_drop]
          rw [show a' + 1 - a = (a' - a) + 1 by omega, List.take_add_one, List.getElem?_drop, show a + (a' - a) = a' by omega]
          congr 1
          rw [List.getElem?_eq_getElem (by rw [size_len]; exact hlt)]
          rfl
        rw [e]; simp)
      cases hl : letter (s[a']).toNat with
      | true =>
        rw [hl] at hL
        have HT3 := HT2 (by unfold wordch; rw [hl]; rfl)
        clear HT hd h HT2 stop hl
        go_wp2_with fail
        go_quiet ((go_at_call 81; exact Calls.quiet_of_same ((hL _).mono fun _ _ ⟨h, k⟩ => ⟨h, k.symm⟩)))
        go_wp2_with fail
        have hs2 := hset nq
        refine ⟨⟨a' + 1, by omega, hs2, hg.trans ((gdrew _ _ _).trans (gset _ _ _ _)), HT3⟩, ?_⟩
        have := hs2.place
        rw [hpl]
        push_cast at this
        rw [this]
        omega
      | false =>
        rw [hl] at hL
        cases hdg : digit (s[a']).toNat with
        | true =>
          rw [hdg] at hD
          have HT3 := HT2 (by unfold wordch; rw [hl, hdg]; rfl)
          clear HT hd h HT2 stop hl hdg
          go_wp2_with fail
          go_quiet (first | (go_at_call 81; exact Calls.quiet_of_same ((hL _).mono fun _ _ ⟨h, k⟩ => ⟨h, k.symm⟩)) | (go_at_call 82; exact Calls.quiet_of_same ((hD _).mono fun _ _ ⟨h, k⟩ => ⟨h, k.symm⟩)))
          go_wp2_with fail
          have hs2 := hset nq
          refine ⟨⟨a' + 1, by omega, hs2, hg.trans ((gdrew _ _ _).trans (gset _ _ _ _)), HT3⟩, ?_⟩
          have := hs2.place
          rw [hpl]
          push_cast at this
          rw [this]
          omega
        | false =>
          rw [hdg] at hD
          have HS := hid (stop.out (fun b u e => by rw [hd] at e; injection e with e1 e2; subst e1; unfold wordch; rw [hl, hdg]; rfl))
          clear HT hd h HT2 stop hl hdg hset
          go_wp2_with fail
          go_quiet (first | (go_at_call 81; exact Calls.quiet_of_same ((hL _).mono fun _ _ ⟨h, k⟩ => ⟨h, k.symm⟩)) | (go_at_call 82; exact Calls.quiet_of_same ((hD _).mono fun _ _ ⟨h, k⟩ => ⟨h, k.symm⟩)))
          go_wp2_with fail
          go_quiet (fail)
          go_wp2_with fail
          go_ret
          exact ⟨by rw [HS.out.1]; rfl, hg.trans ((gdrew _ _ _).trans (gdrew _ _ _)), a', hA, HS.out.2⟩
    · have d1 : decide (a' < s.size) = false := decide_eq_false hlt
      have HS := hid (stop.out (fun b u e => by rw [drop_end hlt] at e; cases e))
      clear HT h stop
      go_wp2_with fail
      go_quiet (fail)
      go_wp2_with fail
      go_quiet (fail)
      go_wp2_with fail
      go_ret
      exact ⟨by rw [HS.out.1]; rfl, hg.trans ((gdrew _ _ _).trans (gdrew _ _ _)), a', hA, HS.out.2⟩
/-- What Quoted answers. -/
def QuotedOut (o : Option (B8 × Nat)) (g a : Nat) (s : ByteArray) (e : Ending) (w' : World) : Prop :=
  match o with
  | some (v, n) => e = .returned (.tuple #[.string ⟨v.toArray⟩, .bool true]) ∧ ScanAt w' g s (a + n)
  | none => e = .returned (.tuple #[.string ⟨#[]⟩, .bool false]) ∧ ScanAt w' g s a
set_option maxHeartbeats 1000000 in
set_option maxRecDepth 100000 in
theorem Quoted_is (g a : Nat) (s : ByteArray) (w : World) (h : ScanAt w g s a) (hs : s.size ≤ 140737488355200) (hn : ∀ v n, runquoteS (s.data.toList.drop a) = some (v, n) → n ≤ (s.data.toList.drop a).length) :
    Calls Tryz.prog 39 #[.pointer (some ⟨g, 0, none⟩)] w fun e w' => w.grownBy w' (some g) ∧ QuotedOut (runquoteS (s.data.toList.drop a)) g a s e w' := by
  obtain ⟨h1, h2, c0, c1, f1⟩ := id h
  have hed : (s.extract a s.size).data.toList = s.data.toList.drop a := extract_drop s a
  have hsz : (s.extract a s.size).size ≤ s.size := by rw [← size_len, hed, List.length_drop]; have := size_len s; omega
  have HU := fun w => RUnquote_is (s.extract a s.size) w (by omega)
  rw [hed] at HU
  have hl : (s.data.toList.drop a).length = s.size - a := by rw [List.length_drop, size_len]
  rw [hl] at hn
  unfold Unq at HU
  have hk : ScanAt w.drew g s a := h
  have hkk : w.cell? ⟨g, 0, none⟩ = some (.string s) ∧ w.cell? ⟨g, 1, none⟩ = some (.int .i64 (a : Int)) := ⟨c0, c1⟩
  have hset := fun w1 (k : ScanAt w1 g s a) n (hn : a + n ≤ s.size) => ScanAt.set k (a + n) hn
  cases hq : runquoteS (s.data.toList.drop a) with
  | none =>
    rw [hq] at HU
    clear hq hed hn hl h
    go_enter Tryz.func39, Tryz.ntmps39
    go_wp2_with fail
    go_region_held3 (fun w' => w'.cell? ⟨g, 0, none⟩ = some (.string s) ∧ w'.cell? ⟨g, 1, none⟩ = some (.int .i64 (a : Int))) (exact hkk)
      (first | (go_at_call 83; refine (HU _).mono ?_; rintro e w1 ⟨rfl, b1⟩; have k1 := hk.below b1; have hkk := (show w1.cell? ⟨g, 0, none⟩ = some (.string s) ∧ w1.cell? ⟨g, 1, none⟩ = some (.int .i64 (a : Int)) from ⟨k1.2.2.1, k1.2.2.2.1⟩); have g1 := gbelow (row := some g) b1; clear HU))
    have f1' := k1.2.2.2.2
    have hs2 := hset _ k1 0 (by omega)
    go_wp2_with fail
    go_ret2
    exact ⟨(gdrew w 1 _).trans (g1.trans (gset _ _ _ _)), rfl, hs2⟩
  | some y =>
    obtain ⟨v, n⟩ := y
    have hn2 := hn v n hq
    rw [hq] at HU
    clear hq hed hn hl h
    go_enter Tryz.func39, Tryz.ntmps39
    go_wp2_with fail
    go_region_held3 (fun w' => w'.cell? ⟨g, 0, none⟩ = some (.string s) ∧ w'.cell? ⟨g, 1, none⟩ = some (.int .i64 (a : Int))) (exact hkk)
      (first | (go_at_call 83; refine (HU _).mono ?_; rintro e w1 ⟨rfl, b1⟩; have k1 := hk.below b1; have hkk := (show w1.cell? ⟨g, 0, none⟩ = some (.string s) ∧ w1.cell? ⟨g, 1, none⟩ = some (.int .i64 (a : Int)) from ⟨k1.2.2.1, k1.2.2.2.1⟩); have g1 := gbelow (row := some g) b1; clear HU))
    have f1' := k1.2.2.2.2
    have hs2 := hset _ k1 n (by omega)
    go_wp2_with fail
    go_ret2
    exact ⟨(gdrew w 1 _).trans (g1.trans (gset _ _ _ _)), rfl, hs2⟩
end Go.Proofs.YthgmmloocdfphaaGreatDoor
