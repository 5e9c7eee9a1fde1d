/-
  What matcher's signOf and parts answer: the pattern's parts, of signs each. Condition: the pattern's size as the theorem names.
  The walk of matcher's parts, and of Glob. Condition: the sizes that each theorem names.
  What matcher's Glob answers: whether some part of the pattern fits all of the text. Condition: sizes as the theorem names.
-/
import Derived.Test.YtlhodanpfpfodaaGreatDoorGlobF
import Derived.Test.YtlhodanpfpfodaaGreatDoorQuote
import Derived.Laws.IdiomStrings
namespace Go.Icz
open Go.RowKit
namespace Kd
variable {α : Type} {K : Kd α}
/-- Reads as l, in a block below M that holds elements of this kind. -/
def RdT (K : Kd α) (w : World) (M : Nat) (v : Value) (l : List α) : Prop :=
  K.Rd w v l ∧ (0 < l.length → ∃ g off n c cs hdr, v = .slice (some ⟨g, off, none⟩) n c ∧ g < M ∧ w.heap[g]? = some (.cells cs K.e hdr))
theorem Own.row {w : World} {B : Nat} {v : Value} {l : List α} (h : K.Own w B v l) {k : Nat} (hk : v.ownBlock = some k) : B ≤ k ∧ ∃ cs, w.heap[k]? = some (.cells cs K.e (0, 0)) := by
  rcases h.2 with ⟨hv, _⟩ | ⟨g, cap, cur, hv, hg, hh, _⟩
  · rw [hv] at hk; cases hk
  · rw [hv] at hk
    have : g = k := by injection hk
    subst this
    exact ⟨hg, cur, hh⟩
theorem Own.rdT {w : World} {B : Nat} {v : Value} {l : List α} (h : K.Own w B v l) : K.RdT w w.heap.size v l := by
  refine ⟨h.rd, fun h0 => ?_⟩
  rcases h.2 with ⟨_, hn⟩ | ⟨g, cap, cur, hv, hg, hh, _⟩
  · omega
  · exact ⟨g, 0, _, _, _, _, hv, (Array.getElem?_eq_some_iff.1 hh).1, hh⟩
theorem Own.farT {w w' : World} {B : Nat} {v : Value} {l : List α} {row : Option Nat} (h : K.Own w B v l) (hg : w.grownBy w' row) (hne : ∀ k, row = some k → k < B ∨ ¬ ∃ cs hdr, w.heap[k]? = some (.cells cs K.e hdr)) : K.Own w' B v l := by
  refine World.ownsRow.kept h hg ?_
  cases hv : v.ownBlock with
  | none => exact .inl rfl
  | some k =>
    refine .inr fun e => ?_
    obtain ⟨h1, cs, h2⟩ := h.row hv
    rcases hne k e.symm with h3 | h3
    · omega
    · exact h3 ⟨cs, _, h2⟩
theorem RdT.mono {w : World} {M M' : Nat} {v : Value} {l : List α} (h : K.RdT w M v l) (hM : M ≤ M') : K.RdT w M' v l := by
  refine ⟨h.1, fun h0 => ?_⟩
  obtain ⟨g, off, n, c, cs, hdr, hv, hg, hh⟩ := h.2 h0
  exact ⟨g, off, n, c, cs, hdr, hv, by omega, hh⟩
theorem RdT.kept {w w' : World} {M : Nat} {v : Value} {l : List α} {row : Option Nat} (h : K.RdT w M v l) (hg : w.grownBy w' row) (hne : ∀ k, row = some k → M ≤ k ∨ ¬ ∃ cs hdr, w.heap[k]? = some (.cells cs K.e hdr)) : K.RdT w' M v l := by
  obtain ⟨hr, ht⟩ := h
  obtain ⟨A, c, hv, hc, hcell⟩ := hr
  by_cases h0 : 0 < l.length
  · obtain ⟨g, off, n, c', cs, hdr, hv2, hgM, hh⟩ := ht h0
    obtain ⟨b, off', hA, hb, hcc⟩ := hcell h0
    rw [hv] at hv2
    injection hv2 with e1 e2 e3
    rw [hA] at e1
    injection e1 with e1
    injection e1 with e1 e4
    subst e1 e4
    have hbk := hg.block b hb (fun e => by
      rcases hne b e.symm with h3 | h3
      · omega
      · exact h3 ⟨cs, hdr, hh⟩)
    refine ⟨⟨A, c, hv, hc, fun _ => ⟨b, off', hA, Nat.lt_of_lt_of_le hb hg.size, fun j u hj => ?_⟩⟩, fun _ => ⟨b, off', l.length, c, cs, hdr, by rw [hv, hA], hgM, hbk.trans hh⟩⟩
    rw [← hcc j u hj]
    exact World.cell?_of_block hbk
  · exact ⟨⟨A, c, hv, hc, fun h => absurd h h0⟩, fun h => absurd h h0⟩
theorem gAlloc (w : World) (o : Obj) : w.grownBy (w.alloc o) none := ⟨rfl, rfl, rfl, by simp, fun k hk _ => heap_alloc_old w o hk⟩
theorem gIter {w : World} {k : Nat} (s : ByteArray) (pos' : Nat) : w.grownBy (w.iterAt k s pos') (some k) :=
  ⟨rfl, rfl, rfl, by simp [World.iterAt], fun j _ hne => Lib.iterAt_other w k j s pos' (fun e => hne (by rw [e]))⟩
end Kd
end Go.Icz
namespace Go.Proofs.YtlhodanpfpfodaaGreatDoor
open Go.RowKit Go.Icz Gl
set_option maxRecDepth 100000 in
theorem signOf_is (r : Nat) (w : World) : Calls Tryz.prog 89 #[.int .i32 r] w fun e w' => e = .returned (.int .i32 (encG (signOf r))) ∧ w' = w := by
  by_cases h1 : r = 63
  · subst h1
    go_enter Tryz.func89, Tryz.ntmps89
    go_wp2_with fail
    go_ret
    exact ⟨rfl, rfl⟩
  · have e1 : ((r : Int) == 63) = false := by rw [beq_eq_false_iff_ne]; omega
    by_cases h2 : r = 42
    · subst h2
      go_enter Tryz.func89, Tryz.ntmps89
      go_wp2_with fail
      go_ret
      exact ⟨rfl, rfl⟩
    · have e2 : ((r : Int) == 42) = false := by rw [beq_eq_false_iff_ne]; omega
      have HN : Hid (encG (signOf r) = (r : Int)) := hid (by unfold signOf; rw [if_neg h2, if_neg h1]; rfl)
      go_enter Tryz.func89, Tryz.ntmps89
      go_wp2_with fail
      go_ret
      exact ⟨by rw [HN.out]; rfl, rfl⟩
/-- The runes of a text. -/
def runesF : Nat → B8 → List Nat
  | 0, _ => []
  | n + 1, l => if l = [] then [] else (Lib.decodeL l).1 :: runesF n (l.drop (Lib.decodeL l).2)
def runesS (l : B8) : List Nat := runesF l.length l
theorem runesF_nil : ∀ n, runesF n [] = []
  | 0 => rfl
  | n + 1 => by simp [runesF]
theorem runesF_fuel : ∀ (n m : Nat) (l : B8), l.length ≤ n → l.length ≤ m → runesF n l = runesF m l
  | 0, m, l, hn, _ => by
    have : l = [] := List.eq_nil_of_length_eq_zero (by omega)
    subst this
    rw [runesF_nil, runesF_nil]
  | n + 1, 0, l, _, hm => by
    have : l = [] := List.eq_nil_of_length_eq_zero (by omega)
    subst this
    rw [runesF_nil, runesF_nil]
  | n + 1, m + 1, l, hn, hm => by
    unfold runesF
    by_cases hne : l = []
    · simp [hne]
    · have hw := Lib.decodeL_width l
      have hl : 0 < l.length := List.length_pos_iff.2 hne
      rw [if_neg hne, if_neg hne, runesF_fuel n m (l.drop (Lib.decodeL l).2) (by rw [List.length_drop]; omega) (by rw [List.length_drop]; omega)]
theorem runesS_nil : runesS [] = [] := rfl
theorem runesS_step (l : B8) (hne : l ≠ []) : runesS l = (Lib.decodeL l).1 :: runesS (l.drop (Lib.decodeL l).2) := by
  have hl : 0 < l.length := List.length_pos_iff.2 hne
  have hw := Lib.decodeL_width l
  obtain ⟨n, hn⟩ : ∃ n, l.length = n + 1 := ⟨l.length - 1, by omega⟩
  unfold runesS
  rw [hn]
  show (if l = [] then [] else _) = _
  rw [if_neg hne, runesF_fuel n (l.drop (Lib.decodeL l).2).length _ (by rw [List.length_drop]; omega) (Nat.le_refl _)]
/-- A row of rows of runes. -/
def KSl : Kd (Option Addr × Nat × Nat) := { e := 88, z := 1, enc := fun x => [.slice x.1 x.2.1 x.2.2], len := fun _ => rfl, pos := by decide, one := fun x u hu => by rw [List.mem_singleton.1 hu]; rfl }
def slV (x : Option Addr × Nat × Nat) : Value := .slice x.1 x.2.1 x.2.2
def PartsIn (w : World) (M : Nat) (pl : List (Option Addr × Nat × Nat)) (ps : List (List Sg)) : Prop :=
  pl.length = ps.length ∧ ∀ i (h : i < pl.length) (h' : i < ps.length), K32.RdT w M (slV pl[i]) (encP ps[i])
theorem PartsIn.kept {w w' : World} {M : Nat} {pl ps} {row : Option Nat} (h : PartsIn w M pl ps) (hg : w.grownBy w' row) (hne : ∀ k, row = some k → M ≤ k ∨ ¬ ∃ cs hdr, w.heap[k]? = some (.cells cs 21 hdr)) : PartsIn w' M pl ps :=
  ⟨h.1, fun i h1 h2 => (h.2 i h1 h2).kept hg hne⟩
theorem PartsIn.mono {w : World} {M M' : Nat} {pl ps} (h : PartsIn w M pl ps) (hM : M ≤ M') : PartsIn w M' pl ps := ⟨h.1, fun i h1 h2 => (h.2 i h1 h2).mono hM⟩
theorem PartsIn.nil (w : World) (M : Nat) : PartsIn w M [] [] := ⟨rfl, fun i h => by simp at h⟩
theorem PartsIn.push {w : World} {M : Nat} {pl ps} (h : PartsIn w M pl ps) {x : Option Addr × Nat × Nat} {p : List Sg} (hx : K32.RdT w M (slV x) (encP p)) : PartsIn w M (pl ++ [x]) (ps ++ [p]) := by
  refine ⟨by simp [h.1], fun i h1 h2 => ?_⟩
  rcases Nat.lt_or_ge i pl.length with hi | hi
  · rw [List.getElem_append_left hi, List.getElem_append_left (by rw [← h.1]; exact hi)]
    exact h.2 i hi _
  · have e : i = pl.length := by simp at h1; omega
    subst e
    rw [List.getElem_append_right (Nat.le_refl _), List.getElem_append_right (by rw [h.1]; exact Nat.le_refl _)]
    simpa [h.1] using hx
theorem not32 {w : World} {k : Nat} {cs : Array Value} (h : w.heap[k]? = some (.cells cs 88 (0, 0))) : ¬ ∃ cs' hdr, w.heap[k]? = some (.cells cs' 21 hdr) := by
  rintro ⟨cs', hdr, h2⟩
  rw [h] at h2
  injection h2 with h2
  injection h2 with _ h2
  exact absurd h2 (by decide)
theorem notSl {w : World} {k : Nat} {cs : Array Value} (h : w.heap[k]? = some (.cells cs 21 (0, 0))) : ¬ ∃ cs' hdr, w.heap[k]? = some (.cells cs' 88 hdr) := by
  rintro ⟨cs', hdr, h2⟩
  rw [h] at h2
  injection h2 with h2
  injection h2 with _ h2
  exact absurd h2 (by decide)
theorem notIt {w : World} {k : Nat} {s : ByteArray} {pos : Nat} {t : TypeId} (h : w.heap[k]? = some (.stringIter s pos)) : ¬ ∃ cs' hdr, w.heap[k]? = some (.cells cs' t hdr) := by
  rintro ⟨cs', hdr, h2⟩
  rw [h] at h2
  cases h2
theorem info32 : (Tryz.prog.info? K32.e).map (fun i => (i.zero, i.size, i.bytes)) = some (some (.int .i32 0), K32.z, 4) := by kernel_rfl
theorem infoSl : (Tryz.prog.info? KSl.e).map (fun i => (i.zero, i.size, i.bytes)) = some (some (.slice none 0 0), KSl.z, 24) := by kernel_rfl
end Go.Proofs.YtlhodanpfpfodaaGreatDoor
namespace Go.Proofs.YtlhodanpfpfodaaGreatDoor
open Go.RowKit Go.Icz Gl
theorem it_kept {w w' : World} {row : Option Nat} {k pos : Nat} {s : ByteArray} (h : w.heap[k]? = some (.stringIter s pos)) (hg : w.grownBy w' row) (hne : ∀ j, row = some j → ∃ cs t, w.heap[j]? = some (.cells cs t (0, 0))) : w'.heap[k]? = some (.stringIter s pos) := by
  refine (hg.block k (Array.getElem?_eq_some_iff.1 h).1 (fun e => ?_)).trans h
  obtain ⟨cs, t, h2⟩ := hne k e.symm
  rw [h] at h2
  cases h2
theorem encP_app (p : List Sg) (g : Sg) : encP (p ++ [g]) = encP p ++ [encG g] := by simp [encP]
theorem encP_len (p : List Sg) : (encP p).length = p.length := by simp [encP]
theorem decode_le (s : ByteArray) (pos : Nat) : (Utf8.decode s pos).1 ≤ 1114111 := Lib.rune_le s pos
/-- What holds of all signs. -/
def Small (p : List Sg) : Prop := ∀ r, Sg.lit r ∈ p → r ≤ 1114111
theorem Small.app {p : List Sg} {g : Sg} (h : Small p) (hg : ∀ r, g = .lit r → r ≤ 1114111) : Small (p ++ [g]) := fun r hr => by
  rcases List.mem_append.1 hr with h1 | h1
  · exact h r h1
  · exact hg r (List.mem_singleton.1 h1).symm
theorem small_sign {r : Nat} (h : r ≤ 1114111) : ∀ q, signOf r = .lit q → q ≤ 1114111 := fun q e => by
  unfold signOf at e
  split at e
  · cases e
  · split at e
    · cases e
    · injection e with e; omega
set_option maxHeartbeats 4000000 in
set_option maxRecDepth 100000 in
theorem parts_is (s : ByteArray) (w : World) (hs : s.size ≤ 1048576) :
    Calls Tryz.prog 49 #[.string s] w fun e w' => ∃ v pl, e = .returned v ∧ KSl.Rd w' v pl ∧ PartsIn w' w'.heap.size pl (split (toks (runesS s.data.toList)) []) ∧ (∀ p ∈ split (toks (runesS s.data.toList)) [], Small p ∧ p.length ≤ 1048577) ∧ pl.length ≤ 1048577 ∧ Below w.heap.size w w' := by
  go_enter Tryz.func49, Tryz.ntmps49
  go_wp2_with fail
  go_loopw [3, 4, 5] (fun allv partv ev wr => ∃ (pos M : Nat) (pl : List (Option Addr × Nat × Nat)) (ps : List (List Sg)) (p : List Sg) (esc : Bool), ev = .bool esc ∧ KSl.Own wr w.heap.size allv pl ∧ K32.Own wr M partv (encP p) ∧ w.heap.size ≤ M ∧ M ≤ wr.heap.size ∧ PartsIn wr M pl ps ∧ wr.heap[w.heap.size]? = some (.stringIter s pos) ∧ Below w.heap.size w wr ∧
    Hid (PAt (runesS s.data.toList) (runesS (s.data.toList.drop pos)) ps p esc) ∧ Hid (∀ p ∈ ps, Small p ∧ p.length ≤ 1048577) ∧ Hid (Small p) ∧ pl.length ≤ pos ∧ p.length ≤ pos ∧ pos ≤ s.size) (fun _ _ _ wr => s.size - wr.iterPos w.heap.size)
  case atStart => exact ⟨0, w.heap.size, [], [], [], false, rfl, Kd.Own.nil _ _, Kd.Own.nil _ _, Nat.le_refl _, ((Below.refl _ w).alloc (Nat.le_refl _) _).size, PartsIn.nil _ _, World.iter_heap w s 0, (Below.refl _ w).alloc (Nat.le_refl _) _, hid (by rw [List.drop_zero]; exact PAt.start _), hid (by simp), hid (fun r h => by simp at h), by simp, by simp, by omega⟩
  case round =>
    obtain ⟨pos, M, pl, ps, p, esc, rfl, hall, hpart, hBM, hM, hps, hit, hbw, HP, HQ, HS, lpl, lp, hpz⟩ := hrel
    have hsz : w.heap.size < wr.heap.size := (Array.getElem?_eq_some_iff.1 hit).1
    by_cases hp : pos < s.size
    · have hnx : ∀ ty, (Instr.next (.pointer (some ⟨w.heap.size, 0, none⟩)) true ty).run Tryz.prog wr = _ := fun ty => Lib.run_next_any_at wr w.heap.size s pos ty hit hp
      have hwd := Lib.width_pos s pos
      have hdr := Lib.rune_le s pos
      have hne : s.data.toList.drop pos ≠ [] := by rw [drop_cons hp]; simp
      have hst := runesS_step _ hne
      have hdl := Lib.decodeL_le _ hne
      rw [Lib.decodeL_drop, List.drop_drop] at hst
      rw [Lib.decodeL_drop, List.length_drop, size_len] at hdl
      have hgi := Kd.gIter (w := wr) (k := w.heap.size) s (pos + (Utf8.decode s pos).2)
      have hall2 := hall.farT hgi (fun k hk => by injection hk with hk; subst hk; exact .inr (notIt hit))
      have hpart2 := hpart.farT hgi (fun k hk => by injection hk with hk; subst hk; exact .inr (notIt hit))
      have hps2 := hps.kept hgi (fun k hk => by injection hk with hk; subst hk; exact .inr (notIt hit))
      have hit2 := Lib.iterAt_heap wr w.heap.size s pos (pos + (Utf8.decode s pos).2) hit
      have hbw2 := Lib.below_iterAt hbw (k := w.heap.size) (Nat.le_refl _) s (pos + (Utf8.decode s pos).2)
      have hz2 := Lib.iterAt_size wr w.heap.size s (pos + (Utf8.decode s pos).2)
      have hmeas : ∀ w4 : World, w4.heap[w.heap.size]? = some (.stringIter s (pos + (Utf8.decode s pos).2)) → s.size - w4.iterPos w.heap.size < s.size - wr.iterPos w.heap.size := fun w4 h4 => by
        simp only [World.iterPos, h4, hit]
        omega
      have HP2 : Hid (PAt (runesS s.data.toList) ((Utf8.decode s pos).1 :: runesS (s.data.toList.drop (pos + (Utf8.decode s pos).2))) ps p esc) := hid (by rw [← hst]; exact HP.out)
      clear hall hpart hps hbw hst hne hgi HP
      generalize (Utf8.decode s pos).1 = r at *
      generalize (Utf8.decode s pos).2 = k at *
      generalize hw2 : wr.iterAt w.heap.size s (pos + k) = w2 at *
      have hkM : M ≤ w2.heap.size := by rw [hz2]; exact hM
      clear hz2
      cases esc with
      | true =>
        have HN := hid HP2.out.escaped
        have HS2 := hid (HS.out.app (g := .lit r) (fun q e => by injection e with e; omega))
        clear HP2 HS
        go_wp2_with (at_builtin; refine Kd.wp_app1 rfl (.tmp 20) (.tmp 22) 88 rfl Tryz.underlying88 info32 rfl M _ (encP p) (r : Int) rfl hpart2 rfl rfl rfl (by rw [encP_len]; unfold maxLen; omega) (by rw [encP_len]; omega) hkM ?_; intro v4 w4 o4 b4 g4 _)
        have all4 := (hall2.alloc _).farT g4 (fun k hk => .inr (by obtain ⟨_, cs, h⟩ := (hpart2.alloc _).row hk; exact notSl h))
        have ps4 := (hps2.kept (Kd.gAlloc _ _) (fun k hk => by cases hk)).kept g4 (fun k hk => .inl (hpart2.row hk).1)
        have it4 := it_kept (it_kept hit2 (Kd.gAlloc _ _) (fun j hj => by cases hj)) g4 (fun j hj => by obtain ⟨_, cs, h⟩ := (hpart2.alloc _).row hj; exact ⟨cs, _, h⟩)
        exact ⟨⟨pos + k, M, pl, ps, p ++ [.lit r], false, rfl, all4, by rw [encP_app]; exact o4, hBM, Nat.le_trans hkM b4.size, ps4, it4, hbw2.trans (b4.mono hBM), HN, HQ, HS2, by omega, by simp; omega, by omega⟩, hmeas _ it4⟩
      | false =>
        by_cases h92 : r = 92
        · subst h92
          have HN := hid HP2.out.slash
          clear HP2
          go_wp2_with fail
          exact ⟨⟨pos + k, M, pl, ps, p, true, rfl, hall2, hpart2, hBM, hkM, hps2, hit2, hbw2, HN, HQ, HS, by omega, by omega, by omega⟩, hmeas _ hit2⟩
        · have e92 : ((r : Int) == 92) = false := by rw [beq_eq_false_iff_ne]; omega
          by_cases h124 : r = 124
          · subst h124
            have HN := hid HP2.out.bar
            have HQ2 : Hid (∀ q ∈ ps ++ [p], Small q ∧ q.length ≤ 1048577) := hid (fun q hq => by rcases List.mem_append.1 hq with h | h; exact HQ.out q h; rw [List.mem_singleton.1 h]; exact ⟨HS.out, by omega⟩)
            clear HP2
            obtain ⟨A, c, rfl, hc⟩ := hpart2.rd.form
            go_wp2_with (at_builtin; refine Kd.wp_app1 rfl (.tmp 30) (.tmp 32) 89 rfl Tryz.underlying89 infoSl rfl w.heap.size _ pl (A, (encP p).length, c) rfl hall2 rfl rfl rfl (by unfold maxLen; omega) (by omega) (Nat.le_trans hBM hkM) ?_; intro v4 w4 o4 b4 g4 _)
            have ps4 := (((hps2.kept (Kd.gAlloc _ _) (fun k hk => by cases hk)).kept g4 (fun k hk => .inr (by obtain ⟨_, cs, h⟩ := (hall2.alloc _).row hk; exact not32 h))).mono (Nat.le_trans hkM b4.size)).push (x := (A, (encP p).length, c)) ((hpart2.alloc _).farT g4 (fun k hk => .inr (by obtain ⟨_, cs, h⟩ := (hall2.alloc _).row hk; exact not32 h))).rdT
            have it4 := it_kept (it_kept hit2 (Kd.gAlloc _ _) (fun j hj => by cases hj)) g4 (fun j hj => by obtain ⟨_, cs, h⟩ := (hall2.alloc _).row hj; exact ⟨cs, _, h⟩)
            exact ⟨⟨pos + k, w4.heap.size, pl ++ [(A, (encP p).length, c)], ps ++ [p], [], false, rfl, o4, Kd.Own.nil _ _, Nat.le_trans hbw2.size b4.size, Nat.le_refl _, ps4, it4, hbw2.trans b4, HN, HQ2, hid (fun r h => by simp at h), by simp; omega, by simp, by omega⟩, hmeas _ it4⟩
          · have e124 : ((r : Int) == 124) = false := by rw [beq_eq_false_iff_ne]; omega
            have HN := hid (HP2.out.sign h92 h124)
            have HS2 := hid (HS.out.app (g := signOf r) (small_sign hdr))
            clear HP2 HS
            go_wp2_with (first
              | (go_at_call 89; refine (signOf_is r _).mono ?_; rintro e w3 ⟨rfl, rfl⟩)
              | (at_builtin; refine Kd.wp_app1 rfl (.tmp 13) (.tmp 16) 88 rfl Tryz.underlying88 info32 rfl M _ (encP p) (encG (signOf r)) rfl hpart2 rfl rfl rfl (by rw [encP_len]; unfold maxLen; omega) (by rw [encP_len]; omega) hkM ?_; intro v4 w4 o4 b4 g4 _))
            have all4 := (hall2.alloc _).farT g4 (fun k hk => .inr (by obtain ⟨_, cs, h⟩ := (hpart2.alloc _).row hk; exact notSl h))
            have ps4 := (hps2.kept (Kd.gAlloc _ _) (fun k hk => by cases hk)).kept g4 (fun k hk => .inl (hpart2.row hk).1)
            have it4 := it_kept (it_kept hit2 (Kd.gAlloc _ _) (fun j hj => by cases hj)) g4 (fun j hj => by obtain ⟨_, cs, h⟩ := (hpart2.alloc _).row hj; exact ⟨cs, _, h⟩)
            exact ⟨⟨pos + k, M, pl, ps, p ++ [signOf r], false, rfl, all4, by rw [encP_app]; exact o4, hBM, Nat.le_trans hkM b4.size, ps4, it4, hbw2.trans (b4.mono hBM), HN, HQ, HS2, by omega, by simp; omega, by omega⟩, hmeas _ it4⟩
    · have hnx : ∀ ty, (Instr.next (.pointer (some ⟨w.heap.size, 0, none⟩)) true ty).run Tryz.prog wr = _ := fun ty => Lib.run_next_end_at wr w.heap.size s pos ty hit hp
      have hend := HP.out
      rw [drop_end hp, runesS_nil] at hend
      have HE := hid hend.end'
      have hpart2 := hpart
      have hkM := hM
      clear hend HP hpart
      cases esc with
      | true =>
        have HS2 := HS.out.app (g := .lit 92) (fun q e => by injection e with e; omega)
        simp only [if_true] at HE
        have HQ2 : Hid (∀ q ∈ ps ++ [p ++ [.lit 92]], Small q ∧ q.length ≤ 1048577) := hid (fun q hq => by rcases List.mem_append.1 hq with h | h; exact HQ.out q h; rw [List.mem_singleton.1 h]; exact ⟨HS2, by simp; omega⟩)
        clear HQ HS HS2
        have t1 := True.intro
        go_wp2_with (first
          | (clear t1; at_builtin; refine Kd.wp_app1 rfl (.tmp 35) (.tmp 36) 88 rfl Tryz.underlying88 info32 rfl M _ (encP p) (92 : Int) rfl hpart2 rfl rfl rfl (by rw [encP_len]; unfold maxLen; omega) (by rw [encP_len]; omega) hkM ?_; intro v4 w4 o4 b4 g4 _; have all4 := (hall.alloc _).farT g4 (fun k hk => .inr (by obtain ⟨_, cs, h⟩ := (hpart2.alloc _).row hk; exact notSl h)); have ps4 := (hps.kept (Kd.gAlloc _ _) (fun k hk => by cases hk)).kept g4 (fun k hk => .inl (hpart2.row hk).1); have bw4 := hbw.trans (b4.mono hBM); have o4' : K32.Own w4 M v4 (encP (p ++ [.lit 92])) := (by rw [encP_app]; exact o4); have z4 := Nat.le_trans hM b4.size; clear o4 hall hps hpart2 hbw g4 b4; obtain ⟨A, c, rfl, hc⟩ := o4'.rd.form; have t2 := True.intro)
          | (clear t2; at_builtin; refine Kd.wp_app1 rfl (.tmp 38) (.tmp 40) 89 rfl Tryz.underlying89 infoSl rfl w.heap.size _ pl (A, (encP (p ++ [.lit 92])).length, c) rfl all4 rfl rfl rfl (by unfold maxLen; omega) (by omega) (Nat.le_trans hBM z4) ?_; intro v5 w5 o5 b5 g5 _))
        have ps5 := (((ps4.kept (Kd.gAlloc _ _) (fun k hk => by cases hk)).kept g5 (fun k hk => .inr (by obtain ⟨_, cs, h⟩ := (all4.alloc _).row hk; exact not32 h))).mono (Nat.le_trans z4 b5.size)).push (x := (A, (encP (p ++ [Sg.lit 92])).length, c)) (p := p ++ [Sg.lit 92]) ((o4'.alloc _).farT g5 (fun k hk => .inr (by obtain ⟨_, cs, h⟩ := (all4.alloc _).row hk; exact not32 h))).rdT
        go_ret
        rw [HE.out]
        exact ⟨_, _, rfl, o5.rd, ps5, HQ2.out, by simp; omega, bw4.trans b5⟩
      | false =>
        simp only [Bool.false_eq_true, if_false] at HE
        have HQ2 : Hid (∀ q ∈ ps ++ [p], Small q ∧ q.length ≤ 1048577) := hid (fun q hq => by rcases List.mem_append.1 hq with h | h; exact HQ.out q h; rw [List.mem_singleton.1 h]; exact ⟨HS.out, by omega⟩)
        clear HQ HS
        obtain ⟨A, c, rfl, hc⟩ := hpart2.rd.form
        go_wp2_with (at_builtin; refine Kd.wp_app1 rfl (.tmp 38) (.tmp 40) 89 rfl Tryz.underlying89 infoSl rfl w.heap.size _ pl (A, (encP p).length, c) rfl hall rfl rfl rfl (by unfold maxLen; omega) (by omega) (Nat.le_trans hBM hM) ?_; intro v5 w5 o5 b5 g5 _)
        have ps5 := (((hps.kept (Kd.gAlloc _ _) (fun k hk => by cases hk)).kept g5 (fun k hk => .inr (by obtain ⟨_, cs, h⟩ := (hall.alloc _).row hk; exact not32 h))).mono (Nat.le_trans hM b5.size)).push (x := (A, (encP p).length, c)) ((hpart2.alloc _).farT g5 (fun k hk => .inr (by obtain ⟨_, cs, h⟩ := (hall.alloc _).row hk; exact not32 h))).rdT
        go_ret
        rw [HE.out]
        exact ⟨_, _, rfl, o5.rd, ps5, HQ2.out, by simp; omega, hbw.trans b5⟩
end Go.Proofs.YtlhodanpfpfodaaGreatDoor
namespace Go.Proofs.YtlhodanpfpfodaaGreatDoor
open Go.RowKit Go.Icz Gl
theorem runesFrom_eq (s : ByteArray) : ∀ (n pos : Nat) (acc : Array Value), s.size ≤ pos + n → (Conv.runesFrom s n pos acc).toList = acc.toList ++ (runesS (s.data.toList.drop pos)).map fun r : Nat => Value.int .i32 (r : Int)
  | 0, pos, acc, h => by
    rw [drop_end (by omega), runesS_nil]
    simp [Conv.runesFrom]
  | n + 1, pos, acc, h => by
    unfold Conv.runesFrom
    by_cases hp : pos < s.size
    · have hwd := Lib.width_pos s pos
      have hne : s.data.toList.drop pos ≠ [] := by rw [drop_cons hp]; simp
      rw [if_pos hp, runesS_step _ hne, Lib.decodeL_drop, List.drop_drop]
      simp only []
      rw [runesFrom_eq s n _ _ (by omega)]
      simp
    · rw [if_neg hp, drop_end hp, runesS_nil]
      simp
theorem runesF_le : ∀ (n : Nat) (l : B8), (runesF n l).length ≤ n ∧ ∀ r ∈ runesF n l, r ≤ 1114111
  | 0, _ => by simp [runesF]
  | n + 1, l => by
    unfold runesF
    split
    · simp
    · have ih := runesF_le n (l.drop (Lib.decodeL l).2)
      refine ⟨by simp; exact ih.1, fun r hr => ?_⟩
      rcases List.mem_cons.1 hr with rfl | hr
      · exact Lib.rune_le ⟨l.toArray⟩ 0
      · exact ih.2 r hr
theorem runesS_le (l : B8) : (runesS l).length ≤ l.length ∧ ∀ r ∈ runesS l, r ≤ 1114111 := runesF_le _ _
/-- '[]rune(s)'. -/
theorem conv_runes (s : ByteArray) (hs : s.size ≤ 1048576) : ∃ (cap : World → Nat) (arr : World → Array Value),
    (∀ w, (convert 9 88 (.string s)).run Tryz.prog w = .ok (.slice (some ⟨w.heap.size, 0, none⟩) (runesS s.data.toList).length (cap w)) (w.drew.alloc (.cells (arr w) 21))) ∧
    ∀ w, K32.Rd (w.drew.alloc (.cells (arr w) 21)) (.slice (some ⟨w.heap.size, 0, none⟩) (runesS s.data.toList).length (cap w)) (encR (runesS s.data.toList)) := by
  have he := runesFrom_eq s s.size 0 #[] (by omega)
  rw [List.drop_zero] at he
  have hsz : (Conv.runesFrom s s.size 0 #[]).size = (runesS s.data.toList).length := by rw [← Array.length_toList, he]; simp
  have hle := (runesS_le s.data.toList).1
  rw [size_len] at hle
  refine ⟨fun w => grownCap w (Conv.runesFrom s s.size 0 #[]).size 0 21, fun w => Conv.runesFrom s s.size 0 #[] ++ Array.replicate (grownCap w (Conv.runesFrom s s.size 0 #[]).size 0 21 - (Conv.runesFrom s s.size 0 #[]).size) (.int .i32 0), fun w => ?_, fun w => ?_⟩
  · rw [← hsz]
    exact run_runes_of_string w _ _ _ s Tryz.underlying9 Tryz.underlying88 Tryz.underlying21 (by omega)
  · have hcap := grownCap_ge w (Conv.runesFrom s s.size 0 #[]).size 0 21
    have hel : (encR (runesS s.data.toList)).length = (runesS s.data.toList).length := by simp [encR]
    refine ⟨_, _, by rw [hel], by rw [hel, ← hsz]; exact hcap, fun _ => ⟨w.heap.size, 0, rfl, by simp, fun j u hj => ?_⟩⟩
    have hn := heap_alloc_new w.drew (.cells (Conv.runesFrom s s.size 0 #[] ++ Array.replicate (grownCap w (Conv.runesFrom s s.size 0 #[]).size 0 21 - (Conv.runesFrom s s.size 0 #[]).size) (.int .i32 0)) 21)
    rw [Nat.zero_add]
    refine (cell_of_row _ _ _ _ _ _ hn).trans ?_
    have hj2 : j < (Conv.runesFrom s s.size 0 #[]).size := by
      have := (List.getElem?_eq_some_iff.1 hj).1
      rw [Kd.cells_len, hel, show K32.z = 1 from rfl, Nat.mul_one] at this
      rw [hsz]
      exact this
    rw [Array.getElem?_append_left hj2, ← Array.getElem?_toList, he]
    have e : K32.cells (encR (runesS s.data.toList)) = (runesS s.data.toList).map fun r : Nat => Value.int .i32 (r : Int) := by
      unfold Kd.cells encR
      generalize runesS s.data.toList = l
      induction l with
      | nil => rfl
      | cons x t ih => simp only [List.map_cons, List.flatMap_cons, ih]; rfl
    rw [e] at hj
    simpa using hj
theorem below_dN {B : Nat} {w w' : World} (n : Nat) (h : Below B w w') : Below B w (w'.drewN n) := ⟨h.os, h.tape, h.output, h.size, h.block⟩
def globS (p s : B8) : Bool := globR (runesS p) (runesS s)
set_option maxHeartbeats 4000000 in
set_option maxRecDepth 100000 in
theorem Glob_is (p s : ByteArray) (w : World) (hp : p.size ≤ 1048576) (hs : s.size ≤ 1048576) :
    Calls Tryz.prog 20 #[.string p, .string s] w fun e w' => e = .returned (.bool (globS p.data.toList s.data.toList)) ∧ Below w.heap.size w w' := by
  obtain ⟨cap, arr, hcv, hrd⟩ := conv_runes s hs
  have hP := fun w => parts_is p w hp
  have hsl := runesS_le s.data.toList
  have hsn := size_len s
  have HG : Hid (globS p.data.toList s.data.toList = ((split (toks (runesS p.data.toList)) []).any fun q => fit q (runesS s.data.toList))) := hid rfl
  generalize globS p.data.toList s.data.toList = g at *
  generalize split (toks (runesS p.data.toList)) [] = ps at *
  generalize runesS s.data.toList = rs at *
  have t0 := True.intro
  go_enter Tryz.func20, Tryz.ntmps20
  go_wp2_with (clear t0; go_at_call 49; refine (hP _).mono ?_; rintro e w2 ⟨v, pl, rfl, rv, hps, hq, hpl, b2⟩; obtain ⟨A, c, rfl, hc⟩ := rv.form; have hb2 : Below w.heap.size w w2 := ((((Below.refl _ w).drew).alloc (Nat.le_refl _) _).trans (b2.mono (by simp))); have hrs := (hrd w).below b2; clear hP hrd b2)
  go_loopw [13] (fun kv wr => ∃ (k n : Nat), kv = .int .i64 k ∧ k ≤ pl.length ∧ wr = w2.drewN n ∧ Hid ((ps.any fun q => fit q rs) = ((ps.drop k).any fun q => fit q rs))) (fun kv _ => pl.length - (intOf kv).toNat)
  case atStart => exact ⟨0, 0, rfl, Nat.zero_le _, rfl, hid (by rw [List.drop_zero])⟩
  case round =>
    obtain ⟨k, n, rfl, hk, rfl, HK⟩ := hrel
    by_cases hlt : k < pl.length
    · have hlt' : (k : Int) < pl.length := by omega
      have hk2 : k < ps.length := by rw [← hps.1]; exact hlt
      obtain ⟨b, off, rfl, hb, hcell⟩ := rv.at hlt
      have hc0 := hcell 0 (slV pl[k]) (by decide) rfl
      rw [show k * KSl.z + 0 = k by show k * 1 + 0 = k; omega] at hc0
      have hF := fun wx => fits_is (slV pl[k]) (.slice (some ⟨w.heap.size, 0, none⟩) rs.length (cap w)) ps[k] rs (w2.drewN wx) (hps.2 k hlt hk2).1 hrs (by have := (hq ps[k] (List.getElem_mem hk2)).2; omega) (by omega) hsl.2 (hq ps[k] (List.getElem_mem hk2)).1
      have hd : ps.drop k = ps[k] :: ps.drop (k + 1) := List.drop_eq_getElem_cons hk2
      cases hf : fit ps[k] rs with
      | true =>
        have HN : Hid (g = true) := hid (by rw [HG.out, HK.out, hd, List.any_cons, hf]; rfl)
        rw [hf] at hF
        clear HK HG hd hf hcell
        generalize slV pl[k] = x at *
        go_wp2_with (go_at_call 50; refine (hF _).mono ?_; rintro e w3 ⟨rfl, n3, rfl⟩)
        go_ret
        exact ⟨by rw [HN.out]; rfl, below_dN _ hb2⟩
      | false =>
        have HN : Hid ((ps.any fun q => fit q rs) = ((ps.drop (k + 1)).any fun q => fit q rs)) := hid (by rw [HK.out, hd, List.any_cons, hf, Bool.false_or])
        rw [hf] at hF
        clear HK HG hd hf hcell
        generalize slV pl[k] = x at *
        go_wp2_with (go_at_call 50; refine (hF _).mono ?_; rintro e w3 ⟨rfl, n3, rfl⟩)
        exact ⟨⟨k + 1, n + n3, by go_num, by omega, by first | rfl | rw [World.drewN_drewN], HN⟩, by simp [intOf]; omega⟩
    · have HN : Hid (g = false) := hid (by rw [HG.out, HK.out, List.drop_of_length_le (by rw [← hps.1]; omega)]; rfl)
      have hlt' : ¬ (k : Int) < pl.length := by omega
      clear HK HG
      go_wp2_with fail
      go_ret
      exact ⟨by rw [HN.out]; rfl, below_dN _ hb2⟩
end Go.Proofs.YtlhodanpfpfodaaGreatDoor
