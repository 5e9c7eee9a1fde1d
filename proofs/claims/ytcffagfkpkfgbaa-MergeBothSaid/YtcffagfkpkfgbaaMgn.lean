/-
  A set of numbers in a map; headsOf and over: an Iter at its beginning. Conditions: those that each theorem names.
-/
import Derived.Test.YtcffagfkpkfgbaaMgt
import Derived.Test.YtcffagfkpkfgbaaMgc
import Derived.Maps.OwnSet
import Derived.Maps.OwnOps
import Derived.Maps.Views
import Derived.LaidEqlPtr
namespace Go.Icz
open Go.RowKit Go.Maps Go.ChangeMaps Go.MapKept
theorem ownsMap_touch {H : Type} {P : Program} {k : TypeId} {R : Value → Option (DataW H × List MemPlace)} {S : Nat → Prop} {w w' : World} {b n : Nat} {D : DataW H} (h : w.ownsMap P k R b n D) (t : Tch S w w') (hS : ¬ S b) : w'.ownsMap P k R b n D := by
  obtain ⟨es, clock, h1, h2, h3, h4⟩ := h
  exact ⟨es, clock, (t.block b (Array.getElem?_eq_some_iff.1 h1).1 hS).trans h1, h2, h3, h4⟩
theorem Tch.turned {w w' : World} {b : Nat} (h : w.mapTurned w' b) : Tch (· = b) w w' := by
  have g := h.grown
  exact ⟨g.os, g.tape, g.output, g.size, fun k hk hn => g.block k hk (fun e => by injection e with e; exact hn e)⟩
def wfI (k : Int) : Prop := (Lit.int .i64 k).wf = true
theorem il_ne {a b : Int} (h : a ≠ b) : Lit.int .i64 a ≠ Lit.int .i64 b := fun e => by injection e with _ e; exact h e
theorem il_key (a : Int) : WideAt.IsKeyLit (Lit.int .i64 a) := trivial
/-- A slice of a list of slices. -/
structure SR where
  A : Option Addr
  c : Nat
  l : List EV
def KSl : Kd SR where
  e := 22
  z := 1
  enc := fun r => [.slice r.A r.l.length r.c]
  len := fun _ => rfl
  pos := by decide
  one := by
    intro x u hu
    simp only [List.mem_cons, List.not_mem_nil, or_false] at hu
    rcases hu with rfl
    rfl
/-- The slice v reads as the rows R. -/
def RdR (w : World) (v : Value) (R : List SR) : Prop := KSl.Rd w v R ∧ ∀ r ∈ R, KEnt.Rd w (.slice r.A r.l.length r.c) r.l ∧ ∀ x ∈ r.l, GoodE w x
theorem RdR.below {w w' : World} {v : Value} {R : List SR} (h : RdR w v R) (hb : Below w.heap.size w w') : RdR w' v R :=
  ⟨h.1.below hb, fun r hr => ⟨(h.2 r hr).1.below hb, fun x hx => ⟨((h.2 r hr).2 x hx).1.below hb, ((h.2 r hr).2 x hx).2⟩⟩⟩
theorem ItR.snocE {l : List HR} {R : List (List EV)} (h : ItR l R) : ItR l (R ++ [[]]) :=
  ⟨h.nd, fun r hr => by rw [List.getElem?_append_left (List.getElem?_eq_some_iff.1 (h.at_ r hr)).1]; exact h.at_ r hr, fun p t h1 h2 => by
    rcases Nat.lt_or_ge p R.length with hp | hp
    · rw [List.getElem?_append_left hp] at h1
      exact h.all p t h1 h2
    · rw [List.getElem?_append_right hp] at h1
      cases e : p - R.length with
      | zero => rw [e] at h1; simp at h1; exact absurd h1 h2
      | succ k => rw [e] at h1; simp at h1⟩
theorem ItR.snocR {l : List HR} {R : List (List EV)} (h : ItR l R) (r : HR) (hp : r.p = R.length) : ItR (l ++ [r]) (R ++ [r.l]) := by
  have lt : ∀ s ∈ l, s.p < R.length := fun s hs => (List.getElem?_eq_some_iff.1 (h.at_ s hs)).1
  refine ⟨?_, fun s hs => ?_, fun p t h1 h2 => ?_⟩
  · rw [List.map_append, List.map_singleton]
    refine List.nodup_append.2 ⟨h.nd, by simp, ?_⟩
    intro a ha b hb
    obtain ⟨s, hs, rfl⟩ := List.mem_map.1 ha
    obtain rfl := List.mem_singleton.1 hb
    have := lt s hs
    omega
  · rcases List.mem_append.1 hs with hs | hs
    · rw [List.getElem?_append_left (lt s hs)]
      exact h.at_ s hs
    · obtain rfl := List.mem_singleton.1 hs
      rw [hp, List.getElem?_append_right (Nat.le_refl _), Nat.sub_self]
      rfl
  · rcases Nat.lt_or_ge p R.length with hlt | hge
    · rw [List.getElem?_append_left hlt] at h1
      obtain ⟨s, hs, e⟩ := h.all p t h1 h2
      exact ⟨s, List.mem_append.2 (.inl hs), e⟩
    · have hp' := (List.getElem?_eq_some_iff.1 h1).1
      rw [List.length_append, List.length_singleton] at hp'
      exact ⟨r, List.mem_append.2 (.inr (List.mem_singleton.2 rfl)), by omega⟩
theorem ItR.nil : ItR [] [] := ⟨by simp, by simp, by simp⟩
end Go.Icz
namespace Go.Proofs.Ytcffagfkpkfgbaa
open Go.RowKit Go.Icz Go.Maps Go.ChangeMaps Go.MapKept
theorem keyI {k : Int} (hk : wfI k) : keyOf Try.prog 3 (.int .i64 k) = some (.int .i64 k) := keyOf_int_mk Try.underlying3 hk
/-- The map in block m is the set of the numbers met. -/
def MSet (w : World) (m : Nat) (met : List Int) : Prop := ∃ D : DataW Unit, w.ownsMap Try.prog 3 unitElem m met.length D ∧ ∀ k, Maps.has D (.int .i64 k) = decide (k ∈ met)
theorem MSet.touch {S : Nat → Prop} {w w' : World} {m : Nat} {met : List Int} (h : MSet w m met) (t : Tch S w w') (hS : ¬ S m) : MSet w' m met := by
  obtain ⟨D, h1, h2⟩ := h
  exact ⟨D, ownsMap_touch h1 t hS, h2⟩
theorem MSet.lt {w : World} {m : Nat} {met : List Int} (h : MSet w m met) : m < w.heap.size := by
  obtain ⟨D, h1, _⟩ := h
  exact h1.lt
theorem MSet.noRow {w : World} {m : Nat} {met : List Int} (h : MSet w m met) : ∀ cur t z, w.heap[m]? ≠ some (.cells cur t z) := by
  obtain ⟨D, ⟨es, clock, h1, _⟩, _⟩ := h
  intro cur t z hc
  rw [h1] at hc
  cases hc
theorem MSet.look {w : World} {m : Nat} {met : List Int} (h : MSet w m met) (k : Int) (hk : wfI k) : (Instr.lookup 48 (.map (some m)) (.int .i64 k) true).run Try.prog w = .ok (.tuple #[.agg #[], .bool (decide (k ∈ met))]) w := by
  obtain ⟨D, ho, ha⟩ := h
  obtain ⟨u, ps, hrun, hu⟩ := ho.look_ok (int_keyed Try.underlying3) Try.underlying48 (Try.zeroValue53 w) (zd := .agg []) (zp := []) unitElem_mk (keyI hk)
  obtain ⟨rfl, _⟩ := unitElem_inv hu
  rw [hrun, ha]
theorem MSet.store {w : World} {m : Nat} {met : List Int} (h : MSet w m met) (k : Int) (hk : wfI k) (hn : met.length < maxLen) : ∃ w', (Instr.mapUpdate 48 (.map (some m)) (.int .i64 k) (.agg #[])).run Try.prog w = .ok () w' ∧ MSet w' m (k :: met) ∧ Tch (· = m) w w' := by
  obtain ⟨D, ho, ha⟩ := h
  obtain ⟨w', hrun, ho', ht⟩ := ho.store (int_keyed Try.underlying3) Try.underlying48 hn (keyI hk) (val := .agg #[]) (d := .agg []) (ps := []) unitElem_mk
  refine ⟨w', hrun, ⟨_, ho', fun j => ?_⟩, Tch.turned ht⟩
  by_cases hj : j = k
  · subst hj
    rw [Maps.has_put_same ho.isMap (il_key _)]
    simp
  · rw [Maps.has_put_other (il_ne hj), ha]
    simp [hj]
theorem MSet.made (w : World) : MSet (w.alloc (.map #[] 0)) w.heap.size [] := ⟨.map [], World.ownsMap_made .., fun k => by simp; rfl⟩
/-- The rows of a list of slices. -/
def rowsOf (R : List SR) : List (List EV) := R.map (·.l)
theorem rowsOf_take {R : List SR} {i : Nat} (hlt : i < R.length) : (rowsOf R).take (i + 1) = (rowsOf R).take i ++ [R[i].l] := by
  unfold rowsOf
  rw [← List.map_take, ← List.map_take, List.take_succ_eq_append_getElem hlt, List.map_append]
  rfl
/-- What headsOf answers. -/
def HeadsOut (W0 : World) (nb : Bool) (R : List SR) (e : Ending) (w' : World) : Prop :=
  ∃ vv l, e = .returned (.agg #[vv, .bool nb]) ∧ KRow.Own w' W0.heap.size vv l ∧ HpF (hlt nb) l l.length 0 ∧ ItR l (rowsOf R) ∧ (∀ r ∈ l, r.l ≠ [] ∧ KEnt.Rd W0 (.slice r.A r.l.length r.c) r.l) ∧ l.length ≤ 1099511627776 ∧ Below W0.heap.size W0 w'
set_option maxRecDepth 100000 in
set_option maxHeartbeats 4000000 in
theorem headsOf_is (v : Value) (nb : Bool) (R : List SR) (W0 : World) (hR : RdR W0 v R) (hlen : R.length ≤ 1099511627776) :
    Calls Try.prog 21 #[v, .bool nb] W0 (HeadsOut W0 nb R) := by
  obtain ⟨A, c, rfl, hc⟩ := hR.1.form
  have b2 : Below W0.heap.size W0 ((W0.alloc (.cells #[.slice none 0 0, .bool false] 46)).alloc (.cells #[.slice none 0 0, .bool nb] 46)) := ((Below.refl _ W0).alloc (Nat.le_refl _) _).alloc (by simp) _
  have r1 : ((W0.alloc (.cells #[.slice none 0 0, .bool false] 46)).alloc (.cells #[.slice none 0 0, .bool nb] 46)).heap[W0.heap.size]? = some (.cells #[.slice none 0 0, .bool false] 46 (0, 0)) := row_alloc (heap_alloc_new W0 _) _
  have r2 : ((W0.alloc (.cells #[.slice none 0 0, .bool false] 46)).alloc (.cells #[.slice none 0 0, .bool nb] 46)).heap[W0.heap.size + 1]? = some (.cells #[.slice none 0 0, .bool nb] 46 (0, 0)) := by
    have := heap_alloc_new (W0.alloc (.cells #[.slice none 0 0, .bool false] 46)) (.cells #[.slice none 0 0, .bool nb] 46)
    rwa [World.size_alloc] at this
  generalize hW2 : (W0.alloc (.cells #[.slice none 0 0, .bool false] 46)).alloc (.cells #[.slice none 0 0, .bool nb] 46) = W2 at *
  have h0 : Hp W0 W2 (W0.heap.size + 1) [] nb (.slice none 0 0) [] := ⟨⟨_, r2, by decide⟩, Kd.Own.nil _ _, by omega, b2, by simp, by simp⟩
  go_enter Try.func21, Try.ntmps21
  go_wp2
  go_loopw [12] (fun iv wr => ∃ (i : Nat) (l : List HR) (vv : Value), iv = .int .i64 i ∧ i ≤ R.length ∧ Hp W0 wr (W0.heap.size + 1) [] nb vv l ∧ Hid (ItR l ((rowsOf R).take i) ∧ l.length ≤ i) ∧ wr.heap[W0.heap.size]? = some (.cells #[.slice none 0 0, .bool false] 46 (0, 0))) (fun iv _ => R.length - (intOf iv).toNat)
  case atStart => exact ⟨0, [], .slice none 0 0, rfl, by omega, h0, hid ⟨ItR.nil, Nat.le_refl _⟩, r1⟩
  case round =>
    obtain ⟨i, l, vv, rfl, hi, hp, HM, hr⟩ := hrel
    by_cases hLt : i < R.length
    · obtain ⟨b, off, hA, hb, hcell⟩ := hR.1.at hLt
      subst hA
      have hri := hR.2 _ (List.getElem_mem hLt)
      have hlen1 : ((rowsOf R).take i).length = i := by unfold rowsOf; rw [List.length_take, List.length_map]; omega
      have hT := rowsOf_take hLt
      have q0 : wr.cell? ⟨b, off + i, none⟩ = some (.slice R[i].A R[i].l.length R[i].c) := by
        have := (hp.bel.cell (p := ⟨b, off + (i * 1 + 0), none⟩) hb).trans (hcell 0 _ (by decide) rfl)
        rwa [Nat.mul_one, Nat.add_zero] at this
      have HT := hid hT
      have HL1 := hid hlen1
      have HLT := hid hLt
      have hil : (i : Int) < (R.length : Int) := by omega
      clear hcell hT hlen1 hR h0 r1 r2 hW2
      generalize R[i] = r at *
      obtain ⟨rA, rc, rl⟩ := r
      simp only at q0 hri
      by_cases he : rl = []
      · subst he
        have FIN : Hid (ItR l ((rowsOf R).take (i + 1)) ∧ l.length ≤ i + 1) := hid ⟨by rw [HT.out]; exact HM.out.1.snocE, by have := HM.out.2; omega⟩
        go_wp2
        go_roundw
        case rel => exact ⟨i + 1, l, vv, by go_num, HLT.out, hp, FIN, hr⟩
        case measure => have := HLT.out; simp [intOf]; omega
      · have hpos : (0 : Int) < (rl.length : Int) := by have := List.length_pos_iff.2 he; omega
        have FIN : Hid (ItR (l ++ [⟨rA, rc, rl, i⟩]) ((rowsOf R).take (i + 1)) ∧ (l ++ [(⟨rA, rc, rl, i⟩ : HR)]).length ≤ i + 1) := hid ⟨by rw [HT.out]; exact HM.out.1.snocR ⟨rA, rc, rl, i⟩ HL1.out.symm, by have := HM.out.2; simp; omega⟩
        have c0 := hp.c0
        have hml : l.length ≤ 1099511627776 := by have := HM.out.2; have := HLT.out; omega
        have hml1 : (l ++ [(⟨rA, rc, rl, i⟩ : HR)]).length ≤ 1099511627776 := by have := FIN.out.2; have := HLT.out; omega
        have hq := hp.lt
        have hz := hp.bel.size
        have ba : ∀ o, Below wr.heap.size wr (wr.alloc o) := fun o => (Below.refl _ wr).alloc (Nat.le_refl _) o
        have keep : ∀ (o : Obj) w5, (wr.alloc o).grownBy w5 vv.ownBlock → w5.cell? ⟨W0.heap.size + 1, 0, none⟩ = some vv ∧ w5.frozen? ⟨W0.heap.size + 1, 0, none⟩ = false ∧ w5.heap[W0.heap.size]? = some (.cells #[.slice none 0 0, .bool false] 46 (0, 0)) := by
          intro o w5 hg
          have hne : some (W0.heap.size + 1) ≠ vv.ownBlock := fun e => (hp.apart _ e.symm) rfl
          have e := (hg.block (W0.heap.size + 1) (by simp; omega) hne).trans (heap_alloc_old wr o hq)
          have hne2 : some W0.heap.size ≠ vv.ownBlock := fun e => by
            obtain ⟨cur, z, hc⟩ := hp.isRow e.symm
            rw [hr] at hc
            injection hc with hc
            injection hc with _ h2 _
            exact absurd h2 (by decide)
          exact ⟨(World.cell?_of_block e).trans c0, (World.frozen?_of_block e).trans (hp.f0 0), (hg.block W0.heap.size (by simp; omega) hne2).trans (row_alloc hr o)⟩
        have push : ∀ (o : Obj) w5 v5, KRow.Own w5 W0.heap.size v5 (l ++ [⟨rA, rc, rl, i⟩]) → (wr.alloc o).grownBy w5 vv.ownBlock → Hp W0 (w5.setCell ⟨W0.heap.size + 1, 0, none⟩ v5) (W0.heap.size + 1) [] nb v5 (l ++ [⟨rA, rc, rl, i⟩]) := fun o w5 v5 ho hg => (hp.pushed (ba o) ho hg (fun x hx => by
          rcases List.mem_append.1 hx with hx | hx
          · exact hp.rd x hx
          · obtain rfl := List.mem_singleton.1 hx
            exact ⟨he, hri.1⟩) hml1).1
        have hmx : l.length + 1 ≤ maxLen := by unfold maxLen; omega
        have hby : (l.length + 1) * 32 ≤ 140737488355328 := by omega
        go_wp2_with (at_builtin; refine Kd.wp_app1 (K := KRow) rfl (.tmp 21) (.tmp 25) 44 rfl Try.underlying44 infoR rfl W0.heap.size vv l ⟨rA, rc, rl, i⟩ rfl hp.own rfl rfl rfl hmx hby hz ?_; intro v5 w5 o5 b5 g5 n5; obtain ⟨k0, k1, k2⟩ := keep _ _ g5; have hp5 := push _ _ _ o5 g5; obtain ⟨A5, k5, rfl, _⟩ := o5.rd.form; have hr5 := row_far (c := W0.heap.size + 1) (i := 0) k2 (.slice A5 (l ++ [(⟨rA, rc, rl, i⟩ : HR)]).length k5) (by omega); simp only [List.length_append, List.length_singleton] at hp5 hr5; clear keep push b5 g5 o5)
        go_roundw
        case rel => exact ⟨i + 1, _, _, by go_num, HLT.out, hp5, FIN, hr5⟩
        case measure => have := HLT.out; simp [intOf]; omega
    · obtain rfl : i = R.length := by omega
      have HI : Hid (ItR l (rowsOf R)) := hid (by have := HM.out.1; rwa [List.take_of_length_le (by unfold rowsOf; rw [List.length_map]; exact Nat.le_refl _)] at this)
      obtain ⟨Av, cv, rfl⟩ := hp.form
      have In := Init_is hp
      generalize hvv : (Value.slice Av l.length cv) = vv at *
      have VV := hid hvv
      clear hvv
      unfold hpI at In
      have m1 : ∀ wx, (Instr.makeInterface 60 (.pointer (some ⟨W0.heap.size + 1, 0, none⟩))).run Try.prog wx = .ok (.iface 60 (.pointer (some ⟨W0.heap.size + 1, 0, none⟩))) wx := fun _ => by kernel_rfl
      have fin : ∀ w6 m, Hp W0 w6 (W0.heap.size + 1) [] nb vv m → m.Perm l → HpF (hlt nb) m l.length 0 → w6.heap[W0.heap.size]? = some (.cells #[.slice none 0 0, .bool false] 46 (0, 0)) → HeadsOut W0 nb R (.returned (.agg #[vv, .bool nb])) ((w6.setCell ⟨W0.heap.size, 0, none⟩ vv).setCell ⟨W0.heap.size, 1, none⟩ (.bool nb)) := by
        intro w6 m h6 p6 f6 r6
        have t : Tch (· = W0.heap.size) w6 ((w6.setCell ⟨W0.heap.size, 0, none⟩ vv).setCell ⟨W0.heap.size, 1, none⟩ (.bool nb)) := (Tch.set (· = W0.heap.size) w6 ⟨W0.heap.size, 0, none⟩ vv rfl).trans (Tch.set _ _ ⟨W0.heap.size, 1, none⟩ _ rfl)
        have ne : vv.ownBlock ≠ some W0.heap.size := fun e => by
          obtain ⟨cur, z, hc⟩ := h6.isRow e
          rw [r6] at hc
          injection hc with hc
          injection hc with _ h2 _
          exact absurd h2 (by decide)
        exact ⟨vv, m, rfl, h6.own.touch t (fun j hj => by rw [hj]; exact ne), by rw [p6.length_eq]; exact f6, HI.out.perm p6, h6.rd, h6.len, Tch.below h6.bel t (fun j hj => by omega) h6.bel.size⟩
      have bW := hp.bel.size
      have vv1 := VV.out
      clear VV
      subst vv1
      go_wp2_with (go_at_call 27; go_loud (refine In.mono ?_; rintro e w6 ⟨rfl, m, h6, p6, f6, o6, fr6⟩; have c0 := h6.c0; have c1 := h6.c1; have r6 := fr6.row hr (fun e => by omega) (by decide); have d0 := held_cell (i := 0) r6 rfl; have d1 := held_cell (i := 1) r6 rfl; have e0 := held_frozen (i := 0) r6; have e1 := held_frozen (i := 1) r6; have FN := fin _ _ h6 p6 f6 r6; clear fin In r6))
      exact bodyPost_ret (v := .agg #[.slice Av l.length cv, .bool nb]) (by simp [results, Try.results21, go_sem, *]) rfl FN
end Go.Proofs.Ytcffagfkpkfgbaa
