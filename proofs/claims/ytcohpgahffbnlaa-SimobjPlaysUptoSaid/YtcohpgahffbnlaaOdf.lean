/-
  The keys without that beginning struck: maps.DeleteFunc at a set of keys. Conditions: those that each theorem names.
-/
import Derived.Test.YtcohpgahffbnlaaOm4
namespace Go.Proofs.Ytcohpgahffbnlaa
open Go.RowKit Go.Icz Go.Maps Go.ChangeMaps Go.MapKept
set_option maxRecDepth 100000
set_option maxHeartbeats 4000000
theorem delF_is {w : World} {b : Nat} {U : AL Unit} (h : Us w b U) (hn : (akeys U).Nodup) (p : ByteArray) (bx : Nat) (hb : w.cell? ⟨bx, 0, none⟩ = some (.string p)) (hbl : bx < w.heap.size) :
    Calls Try.prog 59 #[.map (some b), .func (.func 60) #[] #[.pointer (some ⟨bx, 0, none⟩)]] w fun e w' => e = .returned (.tuple #[]) ∧ Tch (· = b) w w' ∧ ∃ U', Us w' b U' ∧ (akeys U').Nodup ∧ (∀ k, k ∈ akeys U' ↔ hasPre p k = true ∧ k ∈ akeys U) ∧ U'.length ≤ U.length := by
  obtain ⟨D, hown, ha⟩ := h
  have hlt := hown.lt
  have hbb : bx ≠ b := by
    obtain ⟨es, clk, hrow, _⟩ := hown
    intro e
    unfold World.cell? at hb
    simp only [e, hrow] at hb
    cases hb
  have K : Keyed Try.prog 9 := string_keyed Try.underlying9
  obtain ⟨w1, hrun, hr, hg, hsz⟩ := hown.range K (t := 99) Try.underlying99
  -- what holds between two rounds
  obtain ⟨Rel, hRel⟩ : ∃ Rel : World → (Lit → Bool) → Nat → AL Unit → Prop, Rel = fun wr left cnt U1 => ∃ D1 : DataW Unit, wr.ranges Try.prog 9 unitElem b w.heap.size U.length D1 left cnt ∧ AgrK D1 U1 ∧ (akeys U1).Nodup ∧ (∀ k, k ∈ akeys U1 ↔ k ∈ akeys U ∧ (left (kl k) = true ∨ hasPre p k = true)) ∧ (∀ x, left x = true → ∃ k, x = kl k ∧ k ∈ akeys U) ∧ Tch (· = b) w wr ∧ U1.length ≤ U.length := ⟨_, rfl⟩
  have hleft : ∀ x, Maps.has D x = true → ∃ k, x = kl k ∧ k ∈ akeys U := by
    intro x hx
    obtain ⟨es, rfl, _, _⟩ := hown.entries K
    obtain ⟨y, hy, hs⟩ := List.any_eq_true.1 hx
    have hys : ∃ l, y.1 = .string l := by
      obtain ⟨es', clock, _, F, _, hD⟩ := hown
      injection hD with hD
      subst hD
      obtain ⟨z, hz, rfl⟩ := List.mem_map.1 (mem_sorted.1 hy)
      obtain ⟨y', hy'⟩ := F.reads z hz
      rw [WideElems.rg_of hy']
      obtain ⟨s, _, e, _⟩ := Maps.keyOf_str Try.underlying9 (WideElems.rd_key hy')
      exact ⟨s, e⟩
    obtain ⟨l, hl⟩ := hys
    have hxl : y.1 = x := WideAt.sameKey_eq hs
    refine ⟨⟨l.toArray⟩, by rw [← hxl, hl]; unfold kl; simp, ?_⟩
    rw [← al_isSome, ← ha.has, show kl ⟨l.toArray⟩ = x by rw [← hxl, hl]; unfold kl; simp]
    exact hx
  have h0 : Hid (Rel w1 (Maps.has D) (Maps.size D) U) := by
    rw [hRel]
    refine hid ⟨D, hr, ha, hn, fun k => ⟨fun hk => ⟨hk, .inl (by rw [ha.has]; exact al_isSome.2 hk)⟩, fun hk => hk.1⟩, hleft, Tch.grown hg (fun k hk => by cases hk), Nat.le_refl _⟩
  have HM : Hid (∀ wr left cnt U1, Rel wr left cnt U1 → wr.rangeLeft b w.heap.size = cnt) := hid (fun wr left cnt U1 h => by
    rw [hRel] at h
    obtain ⟨D1, h1, _⟩ := h
    exact h1.left_eq)
  have STEP : ∀ (wr : World) (left : Lit → Bool) (cnt : Nat) (U1 : AL Unit), Rel wr left cnt U1 →
      (((Instr.next (.pointer (some ⟨w.heap.size, 0, none⟩)) false 0).run Try.prog wr = .ok (.tuple #[.bool false]) wr ∧ Hid (Tch (· = b) w wr ∧ ∃ U', Us wr b U' ∧ (akeys U').Nodup ∧ (∀ k, k ∈ akeys U' ↔ hasPre p k = true ∧ k ∈ akeys U) ∧ U'.length ≤ U.length)) ∨
       ∃ (s : ByteArray) (w' : World), (Instr.next (.pointer (some ⟨w.heap.size, 0, none⟩)) false 0).run Try.prog wr = .ok (.tuple #[.bool true, .string s, .agg #[]]) w' ∧ (Instr.entry (.pointer (some ⟨w.heap.size, 0, none⟩))).run Try.prog w' = .ok (.tuple #[.string s, .agg #[]]) w' ∧
         (∀ w2, Below w'.heap.size w' w2 → Calls Try.prog 60 #[.string s, .agg #[], .pointer (some ⟨bx, 0, none⟩)] w2 fun e w3 => e = .returned (.bool (!hasPre p s)) ∧ Below w2.heap.size w2 w3) ∧
         Hid (hasPre p s = true → ∀ w2, Below w'.heap.size w' w2 → ∃ left' cnt', Rel w2 left' cnt' U1 ∧ cnt' < cnt) ∧
         Hid (hasPre p s = false → ∀ w2, Below w'.heap.size w' w2 → ∃ w3 left' cnt', (Builtin.delete_ #[99, 9] 0 #[.map (some b), .string s]).run Try.prog w2 = .ok (.tuple #[]) w3 ∧ Rel w3 left' cnt' (adel s U1) ∧ cnt' < cnt)) := by
    intro wr left cnt U1 hh
    rw [hRel] at hh
    obtain ⟨D1, h1, h2, h3, h4, h5, h6, h7⟩ := hh
    rcases h1.next K 0 with ⟨hc0, hall, hrun⟩ | ⟨key, v, kl0, y, w', cnt', hkey, hlk, hv, hat, hrun, hrg, hlt', hgr, hsz', hen⟩
    · refine .inl ⟨hrun, hid ⟨h6, U1, ⟨D1, ownsMap_le h1.owns (by rw [h2.size]; exact Nat.le_refl _), h2⟩, h3, fun k => ?_, h7⟩⟩
      rw [h4 k]
      simp [hall, and_comm]
    · obtain ⟨x, rfl, rfl, hx⟩ := Maps.keyOf_str Try.underlying9 hkey
      obtain ⟨rfl, _⟩ := unitElem_inv hv
      obtain ⟨s, hs⟩ : ∃ s : ByteArray, s = ⟨x.toArray⟩ := ⟨_, rfl⟩
      have hks : Lit.string x = kl s := by rw [hs]; unfold kl; simp
      have hes : encStr x = .string s := by rw [hs]
      rw [hks] at hlk hrg hat hkey
      rw [hes] at hrun hen hkey
      have tr : Tch (· = w.heap.size) wr w' := Tch.grown hgr (fun k hk => by injection hk with hk; exact hk.symm)
      have h6' : Tch (· = b) w w' := h6.out tr (fun j hj => .inr (by omega))
      have hcell : ∀ w2, Below w'.heap.size w' w2 → w2.cell? ⟨bx, 0, none⟩ = some (.string p) ∧ bx < w2.heap.size := fun w2 b2 => by
        have hl2 : bx < w'.heap.size := Nat.lt_of_lt_of_le hbl h6'.size
        exact ⟨(b2.cell (p := ⟨bx, 0, none⟩) hl2).trans ((h6'.cell (b := bx) (i := 0) hbl hbb).trans hb), Nat.lt_of_lt_of_le hl2 b2.size⟩
      refine .inr ⟨s, w', hrun, hen, fun w2 b2 => listed1_is s p bx w2 (hcell w2 b2).1 (hcell w2 b2).2, hid (fun hp w2 b2 => ?_), hid (fun hp w2 b2 => ?_)⟩
      · refine ⟨(fun z => left z && !z.sameKey (kl s)), cnt', ?_, hlt'⟩
        rw [hRel]
        refine ⟨D1, hrg.kept (row := none) ⟨b2.os, b2.tape, b2.output, b2.size, fun k hk _ => b2.block k hk⟩ (by simp) (by simp), h2, h3, fun k => ?_, fun x hx => h5 x (by rw [Bool.and_eq_true] at hx; exact hx.1), h6'.out (Tch.of_below (S := fun _ => False) b2) (fun j hj => hj.elim), h7⟩
        rw [h4 k]
        by_cases e : k = s
        · subst e; simp [hp]
        · simp [kl_same, e]
      · have hrg2 := hrg.kept (row := none) (w' := w2) ⟨b2.os, b2.tape, b2.output, b2.size, fun k hk _ => b2.block k hk⟩ (by simp) (by simp)
        obtain ⟨w3, cnt3, hrun3, hrg3, hle3, ht3⟩ := hrg2.drop K Try.underlying99 hkey 0
        refine ⟨w3, fun z => (left z && !z.sameKey (kl s)) && !z.sameKey (kl s), cnt3, hrun3, ?_, Nat.lt_of_le_of_lt hle3 hlt'⟩
        rw [hRel]
        refine ⟨_, hrg3, h2.del (hrg2.owns.tidy K) h3 s, nodup_adel h3 s, fun k => ?_, fun x hx => h5 x (by simp only [Bool.and_eq_true] at hx; exact hx.1.1), (h6'.out (Tch.of_below (S := fun _ => False) b2) (fun j hj => hj.elim)).trans (Tch.turned ht3), Nat.le_trans (len_adel_le _ _) h7⟩
        rw [mem_keys_del, h4 k]
        by_cases e : k = s
        · subst e; simp [kl_same, hp]
        · simp [kl_same, e]
  clear hown ha hg hr hRel hleft K hn hb
  go_enter Try.func59, Try.ntmps59
  go_wp2
  go_loopw [4] (fun _ wr => ∃ (left : Lit → Bool) (cnt : Nat) (U1 : AL Unit), Hid (Rel wr left cnt U1)) (fun _ wr => wr.rangeLeft b w.heap.size)
  case atStart => exact ⟨_, _, _, h0⟩
  case round =>
    obtain ⟨left, cnt, U1, hra⟩ := hrel
    have hm := hid (HM.out wr left cnt U1 hra.out)
    rcases STEP wr left cnt U1 hra.out with ⟨hrun2, HY⟩ | ⟨s, w', hrun2, hen, hcl, HN, HD⟩
    · clear STEP
      go_wp2
      go_end0
      exact ⟨rfl, HY.out.1, HY.out.2⟩
    · clear STEP
      have bA : Below w'.heap.size w' (w'.alloc (.cells #[] 100)) := (Below.refl _ _).alloc (Nat.le_refl _) _
      cases hp : hasPre p s <;> rw [hp] at hcl
      · go_wp2_with (go_at_call 60; refine (hcl _ bA).mono ?_; rintro e w2 ⟨rfl, b2⟩; obtain ⟨w3, left', cnt', hdel, HR⟩ := HD.out hp w2 (bA.trans (b2.mono bA.size)); have HR2 := hid HR; clear HR)
        go_roundw
        case rel => exact ⟨_, _, _, hid HR2.out.1⟩
        case measure => rw [hm.out, HM.out _ _ _ _ HR2.out.1]; exact HR2.out.2
      · go_wp2_with (go_at_call 60; refine (hcl _ bA).mono ?_; rintro e w2 ⟨rfl, b2⟩; obtain ⟨left', cnt', HR⟩ := HN.out hp w2 (bA.trans (b2.mono bA.size)); have HR2 := hid HR; clear HR)
        go_roundw
        case rel => exact ⟨_, _, _, hid HR2.out.1⟩
        case measure => rw [hm.out, HM.out _ _ _ _ HR2.out.1]; exact HR2.out.2
end Go.Proofs.Ytcohpgahffbnlaa
