/-
  An Index's calls in one word each. Conditions: those that each theorem names.
-/
import Derived.Test.YtnlkipgjacgddaaDoorIxr
import Derived.Test.YtnlkipgjacgddaaDoorApq
namespace Go.Proofs.YtnlkipgjacgddaaDoor
open Go.RowKit Go.Maps Go.Icz Go.ChangeMaps Go.MapKept Go.WideShapes Go.Sort
attribute [local go_sem] Oper.semAt_some
set_option maxRecDepth 100000
set_option maxHeartbeats 4000000
theorem IxI.below {T : Nat → Prop} {w w' : World} {v : Value} {b0 b1 n : Nat} {D0 : DataW Unit} {N : NmMap} {V : VaMap} {D1 : DataW Unit} {M : Int → Option (List Lab)} (h : IxI T w v b0 b1 n D0 N V D1 M) (hb : Below w.heap.size w w') : IxI T w' v b0 b1 n D0 N V D1 M :=
  { hd := (Ct.of_below (T := T) hb).at h.hd, ter := h.ter, dom := ownsMap_below h.dom hb, ids := h.ids.below hb, full := h.full, lv := h.lv, few := h.few, lab := ⟨h.lab.1, fun k l e => by
      obtain ⟨a, u, d, p, e1, e2, e3, e4⟩ := h.lab.2 k l e
      exact ⟨a, u, d, p, e1, e2, e3.below hb, e4⟩⟩ }
theorem IxI.more {T : Nat → Prop} {w : World} {v : Value} {b0 b1 n m : Nat} {D0 : DataW Unit} {N : NmMap} {V : VaMap} {D1 : DataW Unit} {M : Int → Option (List Lab)} (h : IxI T w v b0 b1 n D0 N V D1 M) (hm : n ≤ m) : IxI T w v b0 b1 m D0 N V D1 M :=
  { hd := h.hd, ter := h.ter, dom := h.dom.mono hm, ids := h.ids.more hm, full := h.full, lv := h.lv, few := h.few, lab := h.lab }
theorem Ix.below {T : Nat → Prop} {w w' : World} {v : Value} {n : Nat} {M : Int → Option (List Lab)} (h : Ix T w v n M) (hb : Below w.heap.size w w') : Ix T w' v n M := by
  obtain ⟨b0, b1, D0, N, V, D1, h⟩ := h
  exact ⟨b0, b1, D0, N, V, D1, h.below hb⟩
theorem Ix.more {T : Nat → Prop} {w : World} {v : Value} {n m : Nat} {M : Int → Option (List Lab)} (h : Ix T w v n M) (hm : n ≤ m) : Ix T w v m M := by
  obtain ⟨b0, b1, D0, N, V, D1, h⟩ := h
  exact ⟨b0, b1, D0, N, V, D1, h.more hm⟩
/-- What an Index can come to hold. -/
def GoodM (M : Int → Option (List Lab)) : Prop := ∀ k l, M k = some l → rightS l = true ∧ 0 ≤ k ∧ k < 1099511627776
theorem Ix.good {T : Nat → Prop} {w : World} {v : Value} {n : Nat} {M : Int → Option (List Lab)} (h : Ix T w v n M) : GoodM M := fun k l e => by
  obtain ⟨b0, b1, D0, N, V, D1, h⟩ := h
  obtain ⟨_, _, _, _, _, _, _, _, e5⟩ := h.lab.2 k l e
  exact e5
theorem New_ix (w : World) (T : Nat → Prop) (hT : ∀ j, w.heap.size ≤ j → T j) : Calls Tryd.prog 4 #[] w fun e w' => ∃ g, e = .returned (.pointer (some ⟨g, 0, none⟩)) ∧ Ix T w' (.pointer (some ⟨g, 0, none⟩)) 0 (fun _ => none) ∧ Below w.heap.size w w' := by
  refine (New_is w).mono ?_
  rintro e w' ⟨b0, b1, v, rfl, hi, hb, hne, hd, hids, bel, hgv⟩
  have hi' := hi
  obtain ⟨g, rfl, hg, c0, c1⟩ := hi
  have hgT : w.heap.size ≤ g := hgv g rfl
  have hP : ∀ k x y, False ↔ PrM (fun _ => none) k x y := fun k x y => ⟨fun h => h.elim, fun ⟨l, h, _⟩ => by cases h⟩
  refine ⟨g, rfl, ⟨b0, b1, .map [], fun _ => none, fun _ _ => none, .map [], ?_⟩, bel⟩
  refine { hd := hi', ter := ⟨hT _ hb, hT _ hids.base, hne, fun g' e => by injection e with e; injection e with e; injection e with e; subst e; exact hT _ hgT⟩, dom := hd, ids := ?_, full := ⟨fun x h => absurd rfl h, fun x y h => absurd rfl h⟩, lv := ⟨fun x b e => (by cases e), fun x y b e => (by cases e)⟩, lab := ⟨fun k _ => (by simp [Maps.has]), fun k l e => (by cases e)⟩, few := (by simp [Maps.size]) }
  have h2 := hids.congr hP
  exact { base := Nat.zero_le _, top := h2.top, topAt := h2.topAt, topHas := h2.topHas, mid := fun x b e => (by cases e), midNo := h2.midNo, low := fun x y b e => (by cases e), lowNo := h2.lowNo, oneN := h2.oneN, oneV := h2.oneV, apart := h2.apart }
/-- Add, whatever comes of it. -/
theorem Add_ix (T : Nat → Prop) (v : Value) (k : Int) (u : Value) (l : List Lab) (n : Nat) (M : Int → Option (List Lab)) (w : World) (h : Ix T w v n M) (hk : (Lit.int .i64 k).wf = true) (hR : RdL w u l) (hTb : Tabs w) (hsz : ∀ x ∈ l, x.1.length ≤ 9223372036854775807 ∧ x.2.length ≤ 9223372036854775807) (hnew : ∀ j, w.heap.size ≤ j → T j) (hn : n + 64 ≤ 140737488355328) :
    Calls Tryd.prog 7 #[v, .int .i64 k, u] w fun e w' => ∃ (c : Int) (M' : Int → Option (List Lab)), e = .returned (.int .i64 c) ∧ Ix T w' v (n + 64) M' ∧ Ct T w w' := by
  obtain ⟨b0, b1, D0, N, V, D1, h⟩ := h
  have fin : ∀ (e : Ending) (w' : World), ((∃ c : Int, e = .returned (.int .i64 c)) ∧ Below w.heap.size w w') → ∃ (c : Int) (M' : Int → Option (List Lab)), e = .returned (.int .i64 c) ∧ Ix T w' v (n + 64) M' ∧ Ct T w w' := fun e w' ⟨⟨c, hc⟩, b⟩ => ⟨c, M, hc, ⟨b0, b1, D0, N, V, D1, (h.below b).more (by omega)⟩, Ct.of_below b⟩
  by_cases hid0 : 0 ≤ k ∧ k < 1099511627776
  · cases hg : rightS l with
    | false =>
      cases hh : Maps.has D0 (.int .i64 k) with
      | true => exact (Add_label_true v k u l b0 b1 n D0 w hk h.hd h.dom hid0 hR hTb hsz hh hg).mono fin
      | false => exact (Add_label_false v k u l b0 b1 n D0 w hk h.hd h.dom hid0 hR hTb hsz hh hg).mono fin
    | true =>
      cases hh : Maps.has D0 (.int .i64 k) with
      | true => exact (Add_there v k u l b0 b1 n D0 w hk h.hd h.dom hid0 hR hTb hsz hh hg).mono fin
      | false =>
        by_cases hf : 65536 ≤ Maps.size D0
        · exact (Add_full v k u l b0 b1 n D0 w hk h.hd h.dom hid0 hR hTb hsz hh hg hf).mono fin
        · have hM : M k = none := by
            cases hc : M k with
            | none => rfl
            | some m => rw [(h.lab.1 k hk).2 (by rw [hc]; simp)] at hh; cases hh
          refine (Add_yes T v k u l b0 b1 n D0 N V D1 M w h hid0 hR hTb hsz hg hM (by omega) hnew hn).mono ?_
          rintro e w' ⟨rfl, hi, hc⟩
          exact ⟨0, _, rfl, hi, hc⟩
  · cases hh : Maps.has D0 (.int .i64 k) with
    | true => exact (Add_arg_true v k u b0 b1 n D0 w hk h.hd h.dom hid0 hh).mono fin
    | false => exact (Add_arg_false v k u b0 b1 n D0 w hk h.hd h.dom hid0 hh).mono fin
theorem Rem_ix (T : Nat → Prop) (v : Value) (k : Int) (n : Nat) (M : Int → Option (List Lab)) (w : World) (h : Ix T w v n M) (hk : (Lit.int .i64 k).wf = true) :
    Calls Tryd.prog 6 #[v, .int .i64 k] w fun e w' => ∃ (c : Int) (M' : Int → Option (List Lab)), e = .returned (.int .i64 c) ∧ Ix T w' v n M' ∧ Ct T w w' := by
  have hgd := h.good
  obtain ⟨b0, b1, D0, N, V, D1, h⟩ := h
  cases hM : M k with
  | none =>
    have hh : Maps.has D0 (.int .i64 k) = false := by
      cases hc : Maps.has D0 (.int .i64 k) with
      | false => rfl
      | true => exact absurd hM ((h.lab.1 k hk).1 hc)
    refine (Remove_no v k b0 b1 n D0 w hk h.hd h.dom hh).mono ?_
    rintro e w' ⟨rfl, b⟩
    exact ⟨3, M, rfl, ⟨b0, b1, D0, N, V, D1, h.below b⟩, Ct.of_below b⟩
  | some l =>
    have hr := (hgd k l hM).1
    have hall : ∀ x ∈ l, x.1.length ≤ 64 ∧ x.2.length ≤ 128 := by
      unfold rightS at hr
      rw [Bool.and_eq_true] at hr
      exact chain_all l none hr.2
    refine (Rem_yes T v k l b0 b1 n D0 N V D1 M w h hM (fun x hx => by have := hall x hx; omega)).mono ?_
    rintro e w' ⟨rfl, hi, hc⟩
    exact ⟨0, _, rfl, hi, hc⟩
/-- Keys of numbers, sorted: they rise. -/
theorem keysI_rises {P : Program} {kt : TypeId} {R : Value → Option (DataW Unit × List MemPlace)} {w : World} {b n : Nat} {D : DataW Unit} (hown : w.ownsMap P kt R b n D) (K : Keyed P kt) (hk : P.underlying kt = some (.int .i64)) {ss : List Int} (hp : ss.Perm (intKeys D)) :
    Rises (ss.mergeSort (fun x y => decide (x ≤ y))) (fun x => Maps.has D (.int .i64 x) = true) ∧ ss.length = Maps.size D := by
  obtain ⟨es, hD, hpw, _⟩ := hown.entries K
  obtain ⟨es', hD', hko⟩ := hown.keysOf
  obtain rfl : es = es' := by rw [hD] at hD'; simpa using hD'
  subst hD
  have hkk : ∀ p ∈ es, ∃ x, p.1 = .int .i64 x := fun p hp => by obtain ⟨v, hv⟩ := hko p hp; obtain ⟨x, _, hx, _⟩ := Maps.keyOf_i64 hk hv; exact ⟨x, hx⟩
  have hnd : (intKeys (.map es)).Nodup := by
    show (es.map fun p => Go.intOf p.1).Nodup
    refine List.pairwise_map.2 (hpw.imp_of_mem fun {p q} hp' hq' hne e => hne ?_)
    obtain ⟨a, ha⟩ := hkk p hp'
    obtain ⟨b, hb⟩ := hkk q hq'
    rw [ha, hb] at e ⊢
    exact congrArg _ e
  have hmem : ∀ x, x ∈ intKeys (.map es) ↔ Maps.has (.map es) (.int .i64 x) = true := fun x => by
    rw [has_eq, List.any_eq_true]
    show x ∈ es.map (fun p => Go.intOf p.1) ↔ _
    rw [List.mem_map]
    constructor
    · rintro ⟨p, hp', rfl⟩
      obtain ⟨a, ha⟩ := hkk p hp'
      exact ⟨p, hp', by rw [ha]; simp [Lit.sameKey, Go.intOf]⟩
    · rintro ⟨p, hp', hs⟩
      obtain ⟨a, ha⟩ := hkk p hp'
      rw [ha] at hs
      exact ⟨p, hp', by rw [ha]; simpa [Lit.sameKey, Go.intOf] using hs⟩
  refine ⟨⟨?_, fun x => by rw [List.mem_mergeSort, hp.mem_iff]; exact hmem x⟩, by rw [hp.length_eq]; simp [intKeys, Maps.size]⟩
  have h1 : (ss.mergeSort (fun x y => decide (x ≤ y))).Pairwise (fun a b => decide (a ≤ b) = true) := List.pairwise_mergeSort (fun a b c h1 h2 => by simp only [decide_eq_true_eq] at *; omega) (fun a b => by simp only [Bool.or_eq_true, decide_eq_true_eq]; omega) ss
  have h2 : (ss.mergeSort (fun x y => decide (x ≤ y))).Nodup := ((List.mergeSort_perm ss _).trans hp).nodup_iff.2 hnd
  exact (h1.and h2).imp (fun {a b} ⟨h3, h4⟩ => by simp only [decide_eq_true_eq] at h3; omega)
/-- Keys of texts, sorted: they rise. -/
def StrRises (r : List (List UInt8)) (S : List UInt8 → Prop) : Prop := r.Pairwise (fun a b => Op.bytesLess a b = true) ∧ ∀ x, x ∈ r ↔ S x
theorem keysS_rises {P : Program} {kt : TypeId} {R : Value → Option (DataW Unit × List MemPlace)} {w : World} {b n : Nat} {D : DataW Unit} (hown : w.ownsMap P kt R b n D) (K : Keyed P kt) (hk : P.underlying kt = some .string) {ss : List (List UInt8)} (hp : ss.Perm (strKeys D)) :
    StrRises (ss.mergeSort (fun x y => decide (x ≤ y))) (fun x => Maps.has D (.string x) = true) ∧ ss.length = Maps.size D := by
  obtain ⟨es, hD, hpw, _⟩ := hown.entries K
  obtain ⟨es', hD', hko⟩ := hown.keysOf
  obtain rfl : es = es' := by rw [hD] at hD'; simpa using hD'
  subst hD
  have hkk : ∀ p ∈ es, ∃ x, p.1 = .string x := fun p hp => by obtain ⟨v, hv⟩ := hko p hp; obtain ⟨x, _, hx, _⟩ := Maps.keyOf_str hk hv; exact ⟨x, hx⟩
  have hnd : (strKeys (.map es)).Nodup := by
    show (es.map fun p => strOf p.1).Nodup
    refine List.pairwise_map.2 (hpw.imp_of_mem fun {p q} hp' hq' hne e => hne ?_)
    obtain ⟨a, ha⟩ := hkk p hp'
    obtain ⟨b, hb⟩ := hkk q hq'
    rw [ha, hb] at e ⊢
    exact congrArg _ e
  have hmem : ∀ x, x ∈ strKeys (.map es) ↔ Maps.has (.map es) (.string x) = true := fun x => by
    rw [has_eq, List.any_eq_true]
    show x ∈ es.map (fun p => strOf p.1) ↔ _
    rw [List.mem_map]
    constructor
    · rintro ⟨p, hp', rfl⟩
      obtain ⟨a, ha⟩ := hkk p hp'
      exact ⟨p, hp', by rw [ha]; simp [Lit.sameKey, strOf]⟩
    · rintro ⟨p, hp', hs⟩
      obtain ⟨a, ha⟩ := hkk p hp'
      rw [ha] at hs
      exact ⟨p, hp', by rw [ha]; simpa [Lit.sameKey, strOf] using hs⟩
  refine ⟨⟨?_, fun x => by rw [List.mem_mergeSort, hp.mem_iff]; exact hmem x⟩, by rw [hp.length_eq]; simp [strKeys, Maps.size]⟩
  have h1 : (ss.mergeSort (fun x y => decide (x ≤ y))).Pairwise (fun a b => decide (a ≤ b) = true) := List.pairwise_mergeSort (fun a b c h1 h2 => by simp only [decide_eq_true_eq] at *; exact List.le_trans h1 h2) (fun a b => by simp only [Bool.or_eq_true, decide_eq_true_eq]; exact List.le_total a b) ss
  have h2 : (ss.mergeSort (fun x y => decide (x ≤ y))).Nodup := ((List.mergeSort_perm ss _).trans hp).nodup_iff.2 hnd
  refine (h1.and h2).imp (fun {a b} ⟨h3, h4⟩ => ?_)
  simp only [decide_eq_true_eq] at h3
  rw [bytesLess_eq]
  exact decide_eq_true (by
    rcases Decidable.em (a < b) with h | h
    · exact h
    · exact absurd (List.le_antisymm h3 (List.not_lt.1 h)) h4)
end Go.Proofs.YtnlkipgjacgddaaDoor
