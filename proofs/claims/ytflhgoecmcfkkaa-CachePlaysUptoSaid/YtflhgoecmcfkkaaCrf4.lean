/-
  What the reference's Put does. Conditions: those that the theorem names.
-/
import Derived.Test.YtflhgoecmcfkkaaCrf3
namespace Go.Icz
open Go.RowKit
/-- Bytes as elements. -/
def KB : Kd Nat := { e := 5, z := 1, enc := fun n => [.int .u8 (n : Int)], len := fun _ => rfl, pos := by decide, one := fun x u hu => by simp at hu; subst hu; rfl }
theorem KB_cells (l : List Nat) : KB.cells l = cellsB l := by
  induction l with
  | nil => rfl
  | cons x r ih =>
    have : KB.cells (x :: r) = [.int .u8 (x : Int)] ++ KB.cells r := rfl
    rw [this, ih]
    rfl
theorem KB_own {w : World} {B : Nat} {v : Value} {l : List Nat} (h : KB.Own w B v l) : Own w B v l := by
  have h' : w.ownsRow B 5 1 v l.length (KB.cells l) := h
  rw [KB_cells] at h'
  exact h'
theorem KB_rd {w : World} {v : Value} {l : List Nat} (h : Rd w v l) : KB.Rd w v l := by
  obtain ⟨A, c, hv, hc, hr⟩ := h
  refine ⟨A, c, hv, hc, fun h0 => ?_⟩
  obtain ⟨b, off, hA, hlt, hcell⟩ := hr h0
  refine ⟨b, off, hA, hlt, fun j u hu => ?_⟩
  rw [KB_cells] at hu
  obtain ⟨hj, rfl⟩ := cellsB_get hu
  exact hcell j hj
def rroom (li n : Nat) : List RIt → List RIt
  | [] => []
  | x :: r => if li < rtot (x :: r) + n then rroom li n r else x :: r
theorem rroom_le (li n : Nat) : ∀ l : List RIt, n ≤ li → rtot (rroom li n l) + n ≤ li
  | [], h => by simpa [rroom, rtot] using h
  | x :: r, h => by
    unfold rroom
    split
    · exact rroom_le li n r h
    · omega
theorem rroom_suffix (li n : Nat) : ∀ l : List RIt, ∃ xs, l = xs ++ rroom li n l
  | [] => ⟨[], rfl⟩
  | x :: r => by
    unfold rroom
    split
    · obtain ⟨xs, h⟩ := rroom_suffix li n r
      exact ⟨x :: xs, by rw [List.cons_append, ← h]⟩
    · exact ⟨[], rfl⟩
end Go.Icz
namespace Go.Proofs.Ytflhgoecmcfkkaa
open Go.RowKit Go.Icz Go.Maps
theorem infoB : (Try.prog.info? 5).map (fun i => (i.zero, i.size, i.bytes)) = some (some (.int .u8 0), 1, 1) := by kernel_rfl
theorem Rf.rest {w : World} {B rq li : Nat} {hi mi : Int} {b off n c : Nat} {x : RIt} {l : List RIt} (h : Rf w B rq li hi mi (.slice (some ⟨b, off, none⟩) n c) (x :: l)) :
    ∀ w3, Sm (w.setCell ⟨rq, 3, none⟩ (.slice (if c = 1 then some ⟨b, off, none⟩ else some ⟨b, off + 2, none⟩) l.length (c - 1))) w3 →
      Rf w3 B rq li hi mi (.slice (if c = 1 then some ⟨b, off, none⟩ else some ⟨b, off + 2, none⟩) l.length (c - 1)) l ∧ Tch (· = rq) w w3 ∧ ∀ b', (Value.slice (if c = 1 then some ⟨b, off, none⟩ else some ⟨b, off + 2, none⟩) l.length (c - 1)).ownBlock = some b' → b' = b := by
  intro w3 k3
  have hob : ∀ b', (Value.slice (if c = 1 then some (⟨b, off, none⟩ : Addr) else some ⟨b, off + 2, none⟩) l.length (c - 1)).ownBlock = some b' → b' = b := by
    intro b' hb'
    by_cases e : c = 1
    · rw [if_pos e] at hb'
      injection hb' with hb'
      exact hb'.symm
    · rw [if_neg e] at hb'
      injection hb' with hb'
      exact hb'.symm
  have hbrq : b ≠ rq := fun e => by
    obtain ⟨_, _, cur, hc⟩ := h.tl.lt b rfl
    have := h.at_
    rw [← e, hc] at this
    injection this with this
    injection this with _ h3 _
    cases h3
  have htl : KR.Tail w B (.slice (if c = 1 then some ⟨b, off, none⟩ else some ⟨b, off + 2, none⟩) l.length (c - 1)) l := by
    by_cases e : c = 1
    · rw [if_pos e]
      rcases h.tl with ⟨h1, _⟩ | ⟨g, o, cap, cur, hv, hg, hh, hnc, hcm, hcs, ht⟩
      · cases h1
      · injection hv with h1 h2 h3
        injection h1 with h1
        injection h1 with h4 h5
        subst h3 h4 h5
        rw [List.length_cons] at hnc
        have hl : l = [] := List.eq_nil_of_length_eq_zero (by omega)
        subst hl
        exact .inr ⟨b, off, c - 1, cur, rfl, hg, hh, by simp, by omega, by rw [e]; simp only [Nat.sub_self, Nat.zero_mul, Nat.add_zero]; omega, by simp [Kd.cells]⟩
    · rw [if_neg e]
      have := h.tl.rest
      rw [add_flat] at this
      exact this
  have t3 : Tch (· = rq) w (w.setCell ⟨rq, 3, none⟩ (.slice (if c = 1 then some ⟨b, off, none⟩ else some ⟨b, off + 2, none⟩) l.length (c - 1))) := Tch.set _ _ _ _ rfl
  have tt := k3.out t3
  have hle := h.le
  have hrt : rtot (x :: l) = (x.key.size + x.val.length) + rtot l := rfl
  have hks := h.ks
  rw [List.map_cons, List.nodup_cons] at hks
  exact ⟨⟨k3.row (row_set (i := 3) h.at_ _), htl.touch tt.block (fun b' hb' e => hbrq ((hob b' hb').symm.trans e)), fun y hy => (h.vs y (List.mem_cons_of_mem _ hy)).touch tt (fun j hj => h.nb j (.inl hj)), h.lo, by omega, hks.2⟩, tt, hob⟩
set_option maxRecDepth 100000 in
theorem R8Put_big {w : World} {B rq li : Nat} {hi mi : Int} {v : Value} {l : List RIt} (h : Rf w B rq li hi mi v l) (k : ByteArray) (hk : k.size ≤ 1048576) (u : Value) (bs : List Nat) (hu : Rd w u bs) (hv : bs.length ≤ 1048576) (hs : li < k.size + bs.length) :
    Calls Try.prog 21 #[.pointer (some ⟨rq, 0, none⟩), .string k, u] w fun e w' => e = .returned (.int .i64 6) ∧ w' = w := by
  obtain ⟨A, c, rfl, _⟩ := id hu
  have c0 : w.cell? ⟨rq, 0, none⟩ = some (.int .i64 (li : Int)) := held_cell h.at_ rfl
  have hw := wrap_add (a := k.size) (b := bs.length) rfl (by omega)
  have hd : decide (li < k.size + bs.length) = true := decide_eq_true hs
  clear h hu hs
  generalize k.size + bs.length = kv at *
  go_enter Try.func21, Try.ntmps21
  go_wp2
  go_ret
  exact ⟨rfl, rfl⟩
set_option maxRecDepth 100000 in
set_option maxHeartbeats 4000000 in
theorem R8Put_fit {w : World} {B rq li : Nat} {hi mi : Int} {v : Value} {l : List RIt} (h : Rf w B rq li hi mi v l) (hli : li ≤ 1048576) (k : ByteArray) (u : Value) (bs : List Nat) (hu : Rd w u bs) (huF : 0 < bs.length → ∀ b, u.ownBlock = some b → ¬ FootR rq v b) (hs : k.size + bs.length ≤ li) :
    Calls Try.prog 21 #[.pointer (some ⟨rq, 0, none⟩), .string k, u] w fun e w' => e = .returned (.int .i64 0) ∧ ∃ v' A c, Rf w' B rq li hi mi v' (rroom li (k.size + bs.length) (rdel k l) ++ [⟨k, A, c, bs⟩]) ∧ (∀ b, (Value.slice A bs.length c).ownBlock = some b → w.heap.size ≤ b) ∧ Tch (FootR rq v) w w' ∧ (∀ b, v'.ownBlock = some b → v.ownBlock = some b ∨ w.heap.size ≤ b) := by
  obtain ⟨A, c, rfl, _⟩ := id hu
  have c0 : w.cell? ⟨rq, 0, none⟩ = some (.int .i64 (li : Int)) := held_cell h.at_ rfl
  have hw := wrap_add (a := k.size) (b := bs.length) rfl (by omega)
  have hd : decide (li < k.size + bs.length) = false := decide_eq_false (by omega)
  have hD := R8Drop_is h k
  have hB : B ≤ w.heap.size := Nat.le_of_lt (Nat.lt_of_le_of_lt h.lo (row_lt h.at_))
  have last : ∀ wz v' l', Rf wz B rq li hi mi v' l' → l' = rroom li (k.size + bs.length) (rdel k l) → Tch (FootR rq v) w wz → (∀ b, v'.ownBlock = some b → v.ownBlock = some b ∨ w.heap.size ≤ b) →
      ∃ A1 c1 w2, (Builtin.append_ #[32, 32] 32 #[.slice (some ⟨wz.heap.size, 0, none⟩) 0 0, .slice A bs.length c]).run Try.prog (wz.alloc (.cells #[] 5)).drew = .ok (.slice A1 bs.length c1) w2 ∧ wz.cell? ⟨rq, 3, none⟩ = some v' ∧ (wz.alloc (.cells #[] 5)).cell? ⟨rq, 3, none⟩ = some v' ∧ w2.cell? ⟨rq, 3, none⟩ = some v' ∧ (w2.alloc (.cells #[.string k, .slice A1 bs.length c1] 76)).cell? ⟨rq, 3, none⟩ = some v' ∧
        ∃ A' n' c' w3, (Builtin.append_ #[58, 58] 58 #[v', .slice (some ⟨w2.heap.size, 0, none⟩) 1 1]).run Try.prog (w2.alloc (.cells #[.string k, .slice A1 bs.length c1] 76)) = .ok (.slice A' n' c') w3 ∧ w3.cell? ⟨rq, 3, none⟩ = some v' ∧ w3.frozen? ⟨rq, 3, none⟩ = false ∧
          ∀ w4, Sm (w3.setCell ⟨rq, 3, none⟩ (.slice A' n' c')) w4 → ∃ v' A c, Rf w4 B rq li hi mi v' (rroom li (k.size + bs.length) (rdel k l) ++ [⟨k, A, c, bs⟩]) ∧ (∀ b, (Value.slice A bs.length c).ownBlock = some b → w.heap.size ≤ b) ∧ Tch (FootR rq v) w w4 ∧ (∀ b, v'.ownBlock = some b → v.ownBlock = some b ∨ w.heap.size ≤ b) := by
    intro wz v' l' hz hl' tz hbz
    have hal : Below wz.heap.size wz (wz.alloc (.cells #[] 5)).drew := ((Below.refl _ wz).alloc (Nat.le_refl _) _).drew
    have hsz1 : (wz.alloc (.cells #[] 5)).drew.heap.size = wz.heap.size + 1 := by simp [World.drew]
    have hmade : KB.Own (wz.alloc (.cells #[] 5)).drew wz.heap.size (.slice (some ⟨wz.heap.size, 0, none⟩) 0 0) [] := World.ownsRow_made (e := 5) (size := 1) wz #[] 0 (Nat.le_refl _) (by decide) rfl
    have huz : Rd wz (.slice A bs.length c) bs := Rd.touch hu tz huF
    obtain ⟨v1, w2, r1, o1, g1⟩ := Kd.run_app (K := KB) 32 32 Try.underlying32 infoB rfl wz.heap.size (.slice (some ⟨wz.heap.size, 0, none⟩) 0 0) (.slice A bs.length c) [] bs hmade (KB_rd (huz.below hal)) (by simp; unfold maxLen; omega) (by simp; omega) (by rw [hsz1]; omega)
    rw [List.nil_append] at o1
    have o1' := KB_own o1
    obtain ⟨A1, c1, rfl, _⟩ := id o1'.rd
    have b2 : Below wz.heap.size wz w2 := hal.trans ⟨g1.os, g1.tape, g1.output, g1.size, fun k hk => g1.block k (by rw [hsz1]; omega) (by simp [Value.ownBlock]; omega)⟩
    have hz2 := hz.below b2
    have ha := (Below.refl w2.heap.size w2).alloc (Nat.le_refl _) (.cells #[.string k, .slice A1 bs.length c1] 76)
    have hz3 := hz2.below ha
    have hBz : B ≤ wz.heap.size := Nat.le_trans hB tz.size
    have hrl := rroom_le li (k.size + bs.length) (rdel k l) hs
    obtain ⟨A', n', c', w3, r3, d3, z3, f3⟩ := hz3.app ⟨k, A1, c1, bs⟩ ((o1'.mono hBz).below ha) w2.heap.size (heap_alloc_new w2 _) (fun y hy => by
      rw [hl'] at hy
      obtain ⟨xs, hxs⟩ := rroom_suffix li (k.size + bs.length) (rdel k l)
      exact (mem_rdel.1 (by rw [hxs]; exact List.mem_append.2 (.inr hy))).2) (by rw [hl']; simp only; omega)
    refine ⟨A1, c1, w2, r1, held_cell hz.at_ rfl, held_cell (hz.below hal).at_ rfl, held_cell hz2.at_ rfl, held_cell hz3.at_ rfl, A', n', c', w3, r3, d3, z3, fun w4 k4 => ?_⟩
    obtain ⟨g1', g2, g3⟩ := f3 w4 k4
    have tw : Tch (FootR rq v) w (w2.alloc (.cells #[.string k, .slice A1 bs.length c1] 76)) := (tz.trans (Tch.of_below b2)).trans (Tch.of_below ha)
    refine ⟨_, A1, c1, by rw [← hl']; exact g1', fun b hb => Nat.le_trans tz.size (World.ownsRow.lt o1' b hb).1, tw.out g2 ?_, fun b hb => ?_⟩
    · rintro j (hj | hj)
      · exact .inl (.inl hj)
      · rcases hbz j hj with h1 | h1
        · exact .inl (.inr h1)
        · exact .inr h1
    · rcases g3 b hb with h1 | h1
      · exact hbz b h1
      · exact .inr (Nat.le_trans tw.size h1)
  have hroom0 := rroom_le li (k.size + bs.length) [] hs
  clear h hu huF hB
  generalize k.size + bs.length = kv at *
  generalize rdel k l = l1 at *
  go_enter Try.func21, Try.ntmps21
  go_wp2_with (go_at_call 25; refine hD.mono ?_; rintro e w1 ⟨rfl, v1, h1, t1, hb1⟩)
  go_loopg [] l1.length (fun g wr => ∃ v' l', Aside (rroom li kv l' = rroom li kv l1 ∧ g = l'.length) ∧ Rf wr B rq li hi mi v' l' ∧ Tch (FootR rq v) w wr ∧ (∀ b, v'.ownBlock = some b → v.ownBlock = some b ∨ w.heap.size ≤ b))
  case atStart => exact ⟨v1, l1, ⟨rfl, rfl⟩, h1, t1.mono (fun j hj => .inl hj), hb1⟩
  case round =>
    obtain ⟨v', l', ha, hr, ht, hbb⟩ := hrel
    have hU := fun w5 (b5 : Below wr.heap.size wr w5) => R8Used_is (hr.below b5)
    have hle := hr.le
    have hrq := row_lt hr.at_
    have e0 : ∀ w5, Below wr.heap.size wr w5 → w5.cell? ⟨rq, 0, none⟩ = some (.int .i64 (li : Int)) := fun w5 b5 => held_cell (hr.below b5).at_ rfl
    have e00 := e0 wr (Below.refl _ _)
    have hwr := wrap_add (a := rtot l') (b := kv) rfl (by omega)
    by_cases hlt : li < rtot l' + kv
    · obtain ⟨x, r, rfl⟩ : ∃ x r, l' = x :: r := by
        cases l' with
        | nil => simp [rtot] at hlt; omega
        | cons x r => exact ⟨x, r, rfl⟩
      obtain ⟨A', c', rfl⟩ := hr.form
      obtain ⟨b, off, hA', _⟩ := KR.at hr.tl.rd (by simp)
      subst hA'
      have hcr : (x :: r).length ≤ c' := by
        obtain ⟨_, _, e, hc, _⟩ := hr.tl.rd
        injection e with _ _ e3
        omega
      have hd2 : decide (li < rtot (x :: r) + kv) = true := decide_eq_true hlt
      have e3 : ∀ w5, Below wr.heap.size wr w5 → w5.cell? ⟨rq, 3, none⟩ = some (.slice (some ⟨b, off, none⟩) (r.length + 1) c') ∧ w5.frozen? ⟨rq, 3, none⟩ = false ∧ ∀ w6, Sm (w5.setCell ⟨rq, 3, none⟩ (.slice (if c' = 1 then some ⟨b, off, none⟩ else some ⟨b, off + 2, none⟩) r.length (c' - 1))) w6 → Rf w6 B rq li hi mi (.slice (if c' = 1 then some ⟨b, off, none⟩ else some ⟨b, off + 2, none⟩) r.length (c' - 1)) r ∧ Tch (FootR rq v) w w6 ∧ (∀ b', (Value.slice (if c' = 1 then some ⟨b, off, none⟩ else some ⟨b, off + 2, none⟩) r.length (c' - 1)).ownBlock = some b' → v.ownBlock = some b' ∨ w.heap.size ≤ b') := by
        intro w5 b5
        have h5 := hr.below b5
        refine ⟨held_cell h5.at_ rfl, held_frozen h5.at_, fun w6 k6 => ?_⟩
        obtain ⟨g1, g2, g3⟩ := h5.rest w6 k6
        refine ⟨g1, (ht.trans (Tch.of_below b5)).trans (g2.mono fun j hj => .inl hj), fun b' hb' => ?_⟩
        rw [g3 b' hb']
        exact hbb b rfl
      have hroom : Aside (rroom li kv r = rroom li kv (x :: r)) := by
        refine Eq.symm ?_
        simp only [rroom]
        rw [if_pos hlt]
      rw [List.length_cons] at hcr
      have hltA : Hid (li < rtot (x :: r) + kv) := hid hlt
      generalize rtot (x :: r) = tx at *
      clear hr hlt hle last hD
      by_cases hc1 : c' = 1
      · subst hc1
        obtain rfl : r = [] := List.eq_nil_of_length_eq_zero (by omega)
        simp only [if_true, Nat.sub_self, List.length_nil, Nat.zero_add] at e3
        go_wp2
        go_region_with (go_at_call 26; refine (hU _ (by first | exact Below.refl _ _ | exact (Below.refl _ wr).drew)).mono ?_; rintro e2 w5 ⟨rfl, b5⟩; have b5 : Below wr.heap.size wr w5 := (Below.refl _ wr).drew.trans b5; have e05 := e0 w5 b5; obtain ⟨x3, x4, x5⟩ := e3 w5 b5; clear hU)
        all_goals go_wp2
        all_goals first
          | (exfalso; have := hltA.out; omega)
          | skip
        all_goals (go_roundg 0)
        all_goals first
          | (obtain ⟨_, h3⟩ := ha.out; rw [h3]; simp; done)
          | (obtain ⟨h1', _⟩ := ha.out; exact ⟨_, [], ⟨hroom.out.trans h1', rfl⟩, x5 _ (Tch.refl _ _)⟩)
      · simp only [if_neg hc1] at e3
        go_wp2
        go_region_with (go_at_call 26; refine (hU _ (by first | exact Below.refl _ _ | exact (Below.refl _ wr).drew)).mono ?_; rintro e2 w5 ⟨rfl, b5⟩; have b5 : Below wr.heap.size wr w5 := (Below.refl _ wr).drew.trans b5; have e05 := e0 w5 b5; obtain ⟨x3, x4, x5⟩ := e3 w5 b5; clear hU)
        all_goals go_wp2
        all_goals first
          | (exfalso; have := hltA.out; omega)
          | skip
        all_goals (go_roundg r.length)
        all_goals first
          | (obtain ⟨_, h3⟩ := ha.out; rw [h3]; simp; done)
          | (obtain ⟨h1', _⟩ := ha.out; exact ⟨_, r, ⟨hroom.out.trans h1', rfl⟩, x5 _ (Tch.refl _ _)⟩)
    · have hd2 : decide (li < rtot l' + kv) = false := decide_eq_false hlt
      have hroom : Aside (l' = rroom li kv l1) := by
        obtain ⟨h2, _⟩ := ha.out
        rw [← h2]
        cases l' with
        | nil => rfl
        | cons x r => simp only [rroom]; rw [if_neg hlt]; exact rfl
      have fin := fun wz (hz : Below wr.heap.size wr wz) => last wz v' l' (hr.below hz) hroom.out (ht.trans (Tch.of_below hz)) hbb
      have hltA : Hid (¬ li < rtot l' + kv) := hid hlt
      generalize rtot l' = tl at *
      clear last hD
      go_wp2
      go_region_with (go_at_call 26; refine (hU _ (by first | exact Below.refl _ _ | exact (Below.refl _ wr).drew)).mono ?_; rintro e2 w5 ⟨rfl, b5⟩; have b5 : Below wr.heap.size wr w5 := (Below.refl _ wr).drew.trans b5; have e05 := e0 w5 b5; have fin5 := fun wz bz => fin wz (b5.trans (bz : Below wr.heap.size w5 wz)); clear hU fin)
      all_goals go_wp2
      all_goals first
        | (exfalso; have := hltA.out; omega)
        | skip
      all_goals obtain ⟨A1, c1, w2, r1, e1, e2', e3', e4', A', n', c'', w3, r3, d3, z3, f3⟩ := fin5 w5 (Below.refl _ _)
      all_goals clear fin5
      all_goals go_region_law (first
        | (refine step_run_app rfl (.tmp 45) (.tmp 46) 32 rfl _ _ (.slice A1 bs.length c1) w2 rfl rfl r1 ?_)
        | (refine step_run_app rfl (.tmp 43) (.tmp 49) 58 rfl _ _ (.slice A' n' c'') w3 rfl rfl r3 ?_))
      all_goals go_wp2
      all_goals go_ret
      all_goals exact ⟨rfl, f3 _ (Tch.refl _ _)⟩
end Go.Proofs.Ytflhgoecmcfkkaa
