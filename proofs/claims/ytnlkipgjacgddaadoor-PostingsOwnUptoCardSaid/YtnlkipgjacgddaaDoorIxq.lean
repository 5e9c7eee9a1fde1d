/-
  What an Index tells, of who has which labels: Values, Of, Labels, All. Conditions: those that each theorem names.
-/
import Derived.Test.YtnlkipgjacgddaaDoorIxo
import Derived.Test.YtnlkipgjacgddaaDoorGRo
namespace Go.Icz
open Go.RowKit
def KStr (s : TypeId) : Kd (List UInt8) where
  e := s
  z := 1
  enc := fun x => [.string ⟨x.toArray⟩]
  len := fun _ => rfl
  pos := by decide
  one := fun r u hu => by simp at hu; subst hu; rfl
theorem KStr_cells (s : TypeId) : ∀ l : List (List UInt8), (KStr s).cells l = l.map (fun x => .string ⟨x.toArray⟩)
  | [] => rfl
  | x :: t => by
    have := KStr_cells s t
    unfold Kd.cells at this ⊢
    rw [List.flatMap_cons, this]
    rfl
end Go.Icz
namespace Go.Proofs.YtnlkipgjacgddaaDoor
open Go.RowKit Go.Maps Go.Icz Go.ChangeMaps Go.MapKept Go.WideShapes Go.Sort
attribute [local go_sem] Oper.semAt_some
set_option maxRecDepth 100000
set_option maxHeartbeats 4000000
theorem tl_nm (nm : List UInt8) : (⟨nm.toArray⟩ : ByteArray).data.toList = nm := by simp
theorem atKey_has {D : DataW Unit} {k : Lit} {b : Nat} (h : D.atKey k .nil = .lit (.int .i64 b)) : Maps.has D k = true := by
  cases hh : Maps.has D k with
  | true => rfl
  | false => rw [Maps.atKey_of_not_has hh] at h; cases h
/-- Values: under a name. -/
theorem Ids.vals {B : Nat} {w : World} {b1 n : Nat} {N : NmMap} {V : VaMap} {D1 : DataW Unit} {Pr : Rel3} (h : Ids B w b1 n N V D1 Pr) (hf : Full N V Pr) {nm : List UInt8} {D2 : DataW Unit} (hD : ∀ va, D2.atKey (.string va) .nil = blkD (V nm va)) (hH : ∀ va, Maps.has D2 (.string va) = true → V nm va ≠ none) (va : List UInt8) : Maps.has D2 (.string va) = true ↔ ∃ k, Pr k nm va := by
  constructor
  · intro hh
    obtain ⟨k, _, hp⟩ := hf.2 nm va (hH va hh)
    exact ⟨k, hp⟩
  · rintro ⟨k, hp⟩
    cases hc : V nm va with
    | none => exact absurd hp (h.lowNo nm va hc k)
    | some b =>
      have := hD va
      rw [hc] at this
      exact atKey_has this
theorem Values_ix (T : Nat → Prop) (v : Value) (nm : List UInt8) (n : Nat) (M : Int → Option (List Lab)) (w : World) (h : Ix T w v n M) (hl : nm.length ≤ 9223372036854775807) (hn : n ≤ 4398046511104) :
    Calls Tryd.prog 8 #[v, .string ⟨nm.toArray⟩] w fun e w' => ∃ u r, e = .returned u ∧ (KStr 9).Own w' w.heap.size u r ∧ StrRises r (fun va => ∃ k, PrM M k nm va) ∧ r.length ≤ n ∧ Below w.heap.size w w' := by
  obtain ⟨b0, b1, D0, N, V, D1, h⟩ := h
  have ht := h.ids.topAt nm
  cases hN : N nm with
  | none =>
    rw [hN] at ht
    refine (Values_no v b0 b1 n D1 w h.hd h.ids.top ⟨nm.toArray⟩ (bsz nm hl) (by rw [tl_nm]; exact ht)).mono ?_
    rintro e w' ⟨rfl, b⟩
    exact ⟨_, [], rfl, Kd.Own.nil _ _, ⟨List.Pairwise.nil, fun x => ⟨fun c => (by cases c), fun ⟨k, hp⟩ => absurd hp (h.ids.lowNo nm x (h.ids.midNo nm hN x) k)⟩⟩, by simp, b⟩
  | some bn =>
    rw [hN] at ht
    obtain ⟨_, _, D2, ho2, hD2, hH2⟩ := h.ids.mid nm bn hN
    have hsz := ho2.size_le
    refine (Values_yes v b0 b1 n D1 w h.hd h.ids.top ⟨nm.toArray⟩ (bsz nm hl) bn n D2 (by rw [tl_nm]; exact ht) ho2 (by omega)).mono ?_
    rintro e w' ⟨u, ss, rfl, hp, hrow, b⟩
    obtain ⟨r1, r2⟩ := keysS_rises ho2 (string_keyed Tryd.underlying9) Tryd.underlying9 hp
    have hlen : (ss.mergeSort (fun x y => decide (x ≤ y))).length = ss.length := List.length_mergeSort ss
    refine ⟨u, ss.mergeSort (fun x y => decide (x ≤ y)), rfl, ?_, ⟨r1.1, fun x => (r1.2 x).trans (h.ids.vals h.full hD2 hH2 x)⟩, by omega, b⟩
    unfold Kd.Own
    rw [KStr_cells, hlen]
    exact hrow
theorem ownI_of {w : World} {B : Nat} {u : Value} {ss : List Int} (h : w.ownsRow B 3 1 u ss.length ((ss.mergeSort (fun x y => decide (x ≤ y))).map encZ)) : OwnI w B u (ss.mergeSort (fun x y => decide (x ≤ y))) := by
  unfold OwnI
  rw [List.length_mergeSort]
  exact h
theorem Of_ix (T : Nat → Prop) (v : Value) (nm va : List UInt8) (n : Nat) (M : Int → Option (List Lab)) (w : World) (h : Ix T w v n M) (hl : nm.length ≤ 9223372036854775807) (hl2 : va.length ≤ 9223372036854775807) (hn : n ≤ 4398046511104) :
    Calls Tryd.prog 9 #[v, .string ⟨nm.toArray⟩, .string ⟨va.toArray⟩] w fun e w' => ∃ u r, e = .returned u ∧ OwnI w' w.heap.size u r ∧ Rises r (fun k => PrM M k nm va) ∧ r.length ≤ n ∧ Below w.heap.size w w' := by
  obtain ⟨b0, b1, D0, N, V, D1, h⟩ := h
  have ht := h.ids.topAt nm
  have none_ : (∀ k, ¬ PrM M k nm va) → ∀ (e : Ending) (w' : World), (e = .returned (.slice none 0 0) ∧ Below w.heap.size w w') → ∃ u r, e = .returned u ∧ OwnI w' w.heap.size u r ∧ Rises r (fun k => PrM M k nm va) ∧ r.length ≤ n ∧ Below w.heap.size w w' := fun hno e w' ⟨he, b⟩ =>
    ⟨_, [], he, OwnI.nil _ _, ⟨List.Pairwise.nil, fun x => ⟨fun c => (by cases c), fun c => absurd c (hno x)⟩⟩, by simp, b⟩
  cases hN : N nm with
  | none =>
    rw [hN] at ht
    exact (Of_no v b0 b1 n D1 w h.hd h.ids.top ⟨nm.toArray⟩ (bsz nm hl) ⟨va.toArray⟩ (bsz va hl2) (by rw [tl_nm]; exact ht)).mono (none_ (h.ids.lowNo nm va (h.ids.midNo nm hN va)))
  | some bn =>
    rw [hN] at ht
    obtain ⟨_, _, D2, ho2, hD2, hH2⟩ := h.ids.mid nm bn hN
    have ht2 := hD2 va
    cases hV : V nm va with
    | none =>
      rw [hV] at ht2
      exact (Of_no2 v b0 b1 n D1 w h.hd h.ids.top ⟨nm.toArray⟩ (bsz nm hl) ⟨va.toArray⟩ (bsz va hl2) bn n D2 (by rw [tl_nm]; exact ht) ho2 (by rw [tl_nm]; exact ht2)).mono (none_ (h.ids.lowNo nm va hV))
    | some bs =>
      rw [hV] at ht2
      obtain ⟨_, _, D3, ho3, hD3⟩ := h.ids.low nm va bs hV
      have hsz := ho3.size_le
      refine (Of_yes v b0 b1 n D1 w h.hd h.ids.top ⟨nm.toArray⟩ (bsz nm hl) ⟨va.toArray⟩ (bsz va hl2) bn n D2 (by rw [tl_nm]; exact ht) ho2 bs n D3 (by rw [tl_nm]; exact ht2) ho3 (by omega)).mono ?_
      rintro e w' ⟨u, ss, rfl, hp, hrow, b⟩
      obtain ⟨r1, r2⟩ := keysI_rises ho3 (int_keyed Tryd.underlying3) Tryd.underlying3 hp
      have hlen : (ss.mergeSort (fun x y => decide (x ≤ y))).length = ss.length := List.length_mergeSort ss
      refine ⟨u, _, rfl, ownI_of hrow, ⟨r1.1, fun x => ?_⟩, by omega, b⟩
      rw [r1.2 x]
      constructor
      · intro hx
        have hm : x ∈ ss.mergeSort (fun x y => decide (x ≤ y)) := (r1.2 x).2 hx
        rw [List.mem_mergeSort, hp.mem_iff] at hm
        exact (hD3 x (intKeys_wf ho3 Tryd.underlying3 x hm)).1 hx
      · intro hx
        obtain ⟨m, hm, _⟩ := id hx
        exact (hD3 x (h.lab.2 x m hm).1).2 hx
theorem All_ix (T : Nat → Prop) (v : Value) (n : Nat) (M : Int → Option (List Lab)) (w : World) (h : Ix T w v n M) :
    Calls Tryd.prog 16 #[v] w fun e w' => ∃ u r, e = .returned u ∧ OwnI w' w.heap.size u r ∧ Rises r (fun k => M k ≠ none) ∧ r.length ≤ 65536 ∧ Below w.heap.size w w' := by
  obtain ⟨b0, b1, D0, N, V, D1, h⟩ := h
  have hf := h.few
  refine (All_is v b0 b1 n D0 w h.hd h.dom (by omega)).mono ?_
  rintro e w' ⟨u, ss, rfl, hp, hrow, b⟩
  obtain ⟨r1, r2⟩ := keysI_rises h.dom (int_keyed Tryd.underlying3) Tryd.underlying3 hp
  have hlen : (ss.mergeSort (fun x y => decide (x ≤ y))).length = ss.length := List.length_mergeSort ss
  refine ⟨u, _, rfl, ownI_of hrow, ⟨r1.1, fun x => ?_⟩, by omega, b⟩
  rw [r1.2 x]
  constructor
  · intro hx
    have hm : x ∈ ss.mergeSort (fun x y => decide (x ≤ y)) := (r1.2 x).2 hx
    rw [List.mem_mergeSort, hp.mem_iff] at hm
    exact (h.lab.1 x (intKeys_wf h.dom Tryd.underlying3 x hm)).1 hx
  · intro hx
    cases hc : M x with
    | none => exact absurd hc hx
    | some m => exact (h.lab.1 x (h.lab.2 x m hc).1).2 (by rw [hc]; simp)
theorem Labels_ix (T : Nat → Prop) (v : Value) (k : Int) (l : List Lab) (n : Nat) (M : Int → Option (List Lab)) (w : World) (h : Ix T w v n M) (hM : M k = some l) :
    Calls Tryd.prog 10 #[v, .int .i64 k] w fun e w' => ∃ A c, e = .returned (.tuple #[.slice A l.length c, .int .i64 0]) ∧ Below w.heap.size w w' ∧ RdL w' (.slice A l.length c) l := by
  obtain ⟨b0, b1, D0, N, V, D1, h⟩ := h
  obtain ⟨hk, u, d, p, hu1, hu2, hR, hu4, hrt, hk0, hk1⟩ := h.lab.2 k l hM
  have hl := rightS_pos hrt
  exact Labels_yes v k b0 b1 n D0 w hk h.hd h.dom ((h.lab.1 k hk).2 (by rw [hM]; simp)) u d p hu1 hu2 l hR (by omega)
/-- Numbers that all are of a list, each once, are not more than it has. -/
theorem nodup_len : ∀ {a b : List Int}, a.Nodup → (∀ x ∈ a, x ∈ b) → a.length ≤ b.length
  | [], _, _, _ => Nat.zero_le _
  | x :: t, b, hn, hs => by
    have hx := hs x (List.mem_cons_self ..)
    obtain ⟨h1, h2⟩ := List.nodup_cons.1 hn
    have ih := nodup_len (b := b.erase x) h2 (fun y hy => (List.mem_erase_of_ne (fun e => h1 (by rw [← e]; exact hy))).2 (hs y (List.mem_cons_of_mem _ hy)))
    rw [List.length_erase_of_mem hx] at ih
    have : 0 < b.length := List.length_pos_of_mem hx
    simp only [List.length_cons]
    omega
end Go.Proofs.YtnlkipgjacgddaaDoor
