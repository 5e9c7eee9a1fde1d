/-
  What a cache's shelf holds, as one relation; which of it stays when other memory turns. Conditions: those that each theorem names.
-/
import Derived.Test.YtflhgoecmcfkkaaClist
namespace Go.Icz
open Go.RowKit Go.Maps Go.ChangeMaps Go.MapKept
def sz (e : It) : Nat := e.key.size + e.val.length
def tot (l : List It) : Nat := (l.map sz).sum
theorem tot_app (xs ys : List It) : tot (xs ++ ys) = tot xs + tot ys := by simp [tot]
theorem tot_cons (e : It) (ys : List It) : tot (e :: ys) = sz e + tot ys := rfl
/-- A node's pointer, read as its block's number. -/
def rPt : Value → Option (DataW Unit × List MemPlace)
  | .pointer none => some (.nil, [])
  | .pointer (some ⟨b, 0, none⟩) => some (.lit (.int .i64 b), [])
  | _ => none
theorem rPt_some {v : Value} {b : Nat} {p : List MemPlace} (h : rPt v = some (.lit (.int .i64 b), p)) : v = .pointer (some ⟨b, 0, none⟩) := by
  unfold rPt at h
  split at h
  · simp at h
  · rename_i c
    simp only [Option.some.injEq, Prod.mk.injEq, DataW.lit.injEq, Lit.int.injEq, true_and] at h
    have : c = b := by omega
    rw [this]
  · cases h
theorem rPt_none {v : Value} {p : List MemPlace} (h : rPt v = some (.nil, p)) : v = .pointer none := by
  unfold rPt at h
  split at h
  · rfl
  · simp at h
  · cases h
def kl (k : ByteArray) : Lit := .string k.data.toList
theorem kl_inj {a b : ByteArray} (h : kl a = kl b) : a = b := by
  unfold kl at h
  injection h with h
  exact ByteArray.ext (Array.ext' h)
theorem kl_ne {a b : ByteArray} (h : a ≠ b) : kl a ≠ kl b := fun e => h (kl_inj e)
theorem kl_key (a : ByteArray) : WideAt.IsKeyLit (kl a) := trivial
/-- The items but the key's. -/
def del (k : ByteArray) (l : List It) : List It := l.filter fun e => decide (e.key ≠ k)
def isIn (k : ByteArray) (l : List It) : Bool := l.any fun e => decide (e.key = k)
theorem del_no {k : ByteArray} {l : List It} (h : isIn k l = false) : del k l = l := by
  unfold del
  rw [List.filter_eq_self]
  intro e he
  unfold isIn at h
  have := List.any_eq_false.1 h e he
  simpa using this
theorem isIn_split {k : ByteArray} {l : List It} (h : isIn k l = true) : ∃ xs e ys, l = xs ++ e :: ys ∧ e.key = k := by
  unfold isIn at h
  obtain ⟨e, he, hk⟩ := List.any_eq_true.1 h
  obtain ⟨s, t, rfl⟩ := List.append_of_mem he
  exact ⟨s, e, t, rfl, by simpa using hk⟩
theorem keys_mid {xs ys : List It} {e : It} (h : ((xs ++ e :: ys).map (·.key)).Nodup) : (∀ x ∈ xs, x.key ≠ e.key) ∧ ∀ y ∈ ys, y.key ≠ e.key := by
  rw [List.map_append, List.map_cons] at h
  have hh := List.nodup_append.1 h
  refine ⟨fun x hx => hh.2.2 _ (List.mem_map.2 ⟨x, hx, rfl⟩) _ (List.mem_cons_self ..), fun y hy he => ?_⟩
  exact (List.nodup_cons.1 hh.2.1).1 (List.mem_map.2 ⟨y, hy, he⟩)
theorem del_mid {xs ys : List It} {e : It} (h : ((xs ++ e :: ys).map (·.key)).Nodup) : del e.key (xs ++ e :: ys) = xs ++ ys := by
  obtain ⟨h1, h2⟩ := keys_mid h
  unfold del
  rw [List.filter_append, List.filter_cons]
  have a1 : xs.filter (fun x => decide (x.key ≠ e.key)) = xs := List.filter_eq_self.2 fun x hx => decide_eq_true (h1 x hx)
  have a2 : ys.filter (fun x => decide (x.key ≠ e.key)) = ys := List.filter_eq_self.2 fun x hx => decide_eq_true (h2 x hx)
  rw [a1, a2]
  simp
/-- The map says where each key's item stands. -/
structure Agr (D : DataW Unit) (l : List It) : Prop where
  has : ∀ k, Maps.has D (kl k) = isIn k l
  at_ : ∀ e ∈ l, D.atKey (kl e.key) .nil = .lit (.int .i64 e.g)
  size : Maps.size D = l.length
theorem Agr.del {D : DataW Unit} {xs ys : List It} {e : It} (h : Agr D (xs ++ e :: ys)) (hd : Tidy D) (hk : ((xs ++ e :: ys).map (·.key)).Nodup) : Agr (D.del (kl e.key)) (xs ++ ys) := by
  obtain ⟨h1, h2⟩ := keys_mid hk
  refine ⟨fun k => ?_, fun x hx => ?_, ?_⟩
  · by_cases e' : k = e.key
    · subst e'
      rw [Maps.has_del_same]
      symm
      unfold isIn
      rw [List.any_eq_false]
      intro x hx
      rcases List.mem_append.1 hx with h' | h'
      · simpa using h1 x h'
      · simpa using h2 x h'
    · rw [Maps.has_del_other (kl_ne e'), h.has]
      unfold isIn
      rw [List.any_append, List.any_append, List.any_cons]
      have : decide (e.key = k) = false := decide_eq_false (fun h => e' h.symm)
      rw [this, Bool.false_or]
  · have hx' : x ∈ xs ++ e :: ys := by
      rcases List.mem_append.1 hx with h' | h'
      · exact List.mem_append.2 (.inl h')
      · exact List.mem_append.2 (.inr (List.mem_cons_of_mem _ h'))
    have hne : x.key ≠ e.key := by
      rcases List.mem_append.1 hx with h' | h'
      · exact h1 x h'
      · exact h2 x h'
    rw [Maps.atKey_del_other (kl_ne hne)]
    exact h.at_ x hx'
  · have hs := Maps.size_del hd (k := kl e.key)
    have hh : Maps.has D (kl e.key) = true := by
      rw [h.has]
      unfold isIn
      rw [List.any_append, List.any_cons]
      simp
    rw [hh, h.size] at hs
    simp at hs ⊢
    omega
theorem Agr.put {D : DataW Unit} {l : List It} {e : It} (h : Agr D l) (hd : Tidy D) (hn : isIn e.key l = false) : Agr (D.put (kl e.key) (.lit (.int .i64 e.g))) (l ++ [e]) := by
  refine ⟨fun k => ?_, fun x hx => ?_, ?_⟩
  · unfold isIn
    rw [List.any_append, List.any_cons, List.any_nil, Bool.or_false]
    by_cases e' : k = e.key
    · subst e'
      rw [Maps.has_put_same hd.isMap (kl_key _)]
      simp
    · rw [Maps.has_put_other (kl_ne e'), h.has]
      have : decide (e.key = k) = false := decide_eq_false (fun h => e' h.symm)
      rw [this, Bool.or_false]
      rfl
  · rcases List.mem_append.1 hx with h' | h'
    · have hne : x.key ≠ e.key := by
        unfold isIn at hn
        simpa using List.any_eq_false.1 hn x h'
      rw [Maps.atKey_put_other (kl_ne hne)]
      exact h.at_ x h'
    · obtain rfl : x = e := by simpa using h'
      exact Maps.atKey_put_same hd.isMap (kl_key _) _ _
  · rw [Maps.size_put hd, h.has, hn, h.size]
    simp
/-- Nothing in S holds bytes. -/
def NB (S : Nat → Prop) (w : World) : Prop := ∀ j, S j → ∀ cur z, w.heap[j]? ≠ some (.cells cur 5 z)
theorem Own.touch {S : Nat → Prop} {w w' : World} {B : Nat} {v : Value} {l : List Nat} (h : Own w B v l) (k : Tch S w w') (hS : NB S w) : Own w' B v l := by
  refine ⟨h.1, ?_⟩
  rcases h.2 with h | ⟨g, cap, cur, hv, hg, hh, r⟩
  · exact .inl h
  · exact .inr ⟨g, cap, cur, hv, hg, k.row hh (fun hs => hS g hs cur (0, 0) hh), r⟩
theorem ownsMap_touch {H : Type} {P : Program} {k : TypeId} {R : Value → Option (DataW H × List MemPlace)} {S : Nat → Prop} {w w' : World} {b n : Nat} {D : DataW H} (h : w.ownsMap P k R b n D) (t : Tch S w w') (hS : ¬ S b) : w'.ownsMap P k R b n D := by
  obtain ⟨es, clock, h1, h2, h3, h4⟩ := h
  exact ⟨es, clock, (t.block b (Array.getElem?_eq_some_iff.1 h1).1 hS).trans h1, h2, h3, h4⟩
theorem ownsMap_le {H : Type} {P : Program} {k : TypeId} {R : Value → Option (DataW H × List MemPlace)} {w : World} {b n m : Nat} {D : DataW H} (h : w.ownsMap P k R b n D) (hm : Maps.size D ≤ m) : w.ownsMap P k R b m D := by
  obtain ⟨es, clock, h1, h2, h3, rfl⟩ := h
  refine ⟨es, clock, h1, h2, ?_, rfl⟩
  rw [Maps.size_eq, length_read] at hm
  exact hm
theorem Tch.turned {w w' : World} {b : Nat} (h : w.mapTurned w' b) : Tch (· = b) w w' := by
  have g := h.grown
  exact ⟨g.os, g.tape, g.output, g.size, fun k hk hn => g.block k hk (fun e => by injection e with e; exact hn e)⟩
end Go.Icz
namespace Go.Proofs.Ytflhgoecmcfkkaa
open Go.RowKit Go.Icz Go.Maps
/-- Where a cache lies. -/
def Foot (s m : Nat) (l : List It) (k : Nat) : Prop := k = s ∨ k = m ∨ k ∈ gs l
/-- The shelf in block s, its map in block m: of limit li, with the items l; all of it lies from B on. -/
structure Sh (w : World) (B s m li : Nat) (hi mi : Int) (l : List It) : Prop where
  at_ : ShAt w s li (tot l) hi mi l (.map (some m))
  ch : Chain w nl l nl
  nd : (gs l).Nodup
  sn : s ∉ gs l
  ks : (l.map (·.key)).Nodup
  mp : ∃ D, w.ownsMap Try.prog 9 rPt m l.length D ∧ Agr D l
  vs : ∀ e ∈ l, Own w B e.sv e.val
  lo : B ≤ s ∧ B ≤ m ∧ ∀ e ∈ l, B ≤ e.g
  le : tot l ≤ li
  lim : li ≤ 1048576
theorem Sh.ms {w : World} {B s m li : Nat} {hi mi : Int} {l : List It} (h : Sh w B s m li hi mi l) : m ≠ s ∧ m ∉ gs l := by
  obtain ⟨D, ⟨es, clock, h1, _⟩, _⟩ := h.mp
  constructor
  · rintro rfl
    have := h.at_
    unfold ShAt at this
    rw [h1] at this
    cases this
  · intro hm
    obtain ⟨e, he, rfl⟩ := List.mem_map.1 hm
    obtain ⟨a, b, hn⟩ := h.ch.node he
    unfold Nd at hn
    rw [h1] at hn
    cases hn
theorem Sh.nb {w : World} {B s m li : Nat} {hi mi : Int} {l : List It} (h : Sh w B s m li hi mi l) : NB (Foot s m l) w := by
  rintro j (rfl | rfl | hj) cur z hc
  · have := h.at_
    unfold ShAt at this
    rw [hc] at this
    injection this with this
    injection this with _ h2 _
    cases h2
  · obtain ⟨D, ⟨es, clock, h1, _⟩, _⟩ := h.mp
    rw [h1] at hc
    cases hc
  · obtain ⟨e, he, rfl⟩ := List.mem_map.1 hj
    obtain ⟨a, b, hn⟩ := h.ch.node he
    unfold Nd at hn
    rw [hc] at hn
    injection hn with hn
    injection hn with _ h2 _
    cases h2
theorem Sh.lt {w : World} {B s m li : Nat} {hi mi : Int} {l : List It} (h : Sh w B s m li hi mi l) : ∀ k, Foot s m l k → B ≤ k ∧ k < w.heap.size := by
  rintro k (rfl | rfl | hk)
  · exact ⟨h.lo.1, row_lt h.at_⟩
  · obtain ⟨D, h1, _⟩ := h.mp
    exact ⟨h.lo.2.1, h1.lt⟩
  · obtain ⟨e, he, rfl⟩ := List.mem_map.1 hk
    exact ⟨h.lo.2.2 e he, h.ch.lt e he⟩
theorem Sh.touch {S : Nat → Prop} {w w' : World} {B s m li : Nat} {hi mi : Int} {l : List It} (h : Sh w B s m li hi mi l) (k : Tch S w w') (hS : ∀ j, S j → ¬ Foot s m l j) (hB : NB S w) : Sh w' B s m li hi mi l := by
  obtain ⟨D, h1, h2⟩ := h.mp
  refine ⟨k.row h.at_ fun hs => hS _ hs (.inl rfl), h.ch.touch k fun e he hs => hS _ hs (.inr (.inr (mem_gs he))), h.nd, h.sn, h.ks, ⟨D, ownsMap_touch h1 k fun hs => hS _ hs (.inr (.inl rfl)), h2⟩, fun e he => (h.vs e he).touch k hB, h.lo, h.le, h.lim⟩
theorem Sh.below {w w' : World} {B s m li : Nat} {hi mi : Int} {l : List It} (h : Sh w B s m li hi mi l) (k : Below w.heap.size w w') : Sh w' B s m li hi mi l :=
  h.touch (S := fun _ => False) (Tch.of_below k) (fun _ h => h.elim) (fun _ h => h.elim)
theorem Sh.len {w : World} {B s m li : Nat} {hi mi : Int} {l : List It} (h : Sh w B s m li hi mi l) : l.length ≤ li + 1 := by
  have key : ∀ l : List It, (l.map (·.key)).Nodup → l.length ≤ tot l + 1 ∧ ((∀ e ∈ l, e.key ≠ ⟨#[]⟩) → l.length ≤ tot l) := by
    intro l
    induction l with
    | nil => intro _; exact ⟨by simp, fun _ => by simp [tot]⟩
    | cons e r ih =>
      intro hn
      rw [List.map_cons, List.nodup_cons] at hn
      obtain ⟨i1, i2⟩ := ih hn.2
      have pos : ∀ k : ByteArray, k ≠ ⟨#[]⟩ → 0 < k.size := by
        intro k hk
        rcases Nat.eq_zero_or_pos k.size with h0 | h0
        · exact absurd (ByteArray.ext (Array.eq_empty_of_size_eq_zero h0)) hk
        · exact h0
      constructor
      · by_cases he : e.key = ⟨#[]⟩
        · have := i2 (fun x hx hxe => hn.1 (List.mem_map.2 ⟨x, hx, by rw [hxe, he]⟩))
          rw [tot_cons, List.length_cons]
          omega
        · have := pos e.key he
          rw [tot_cons, List.length_cons]
          unfold sz
          omega
      · intro ha
        have := i2 (fun x hx => ha x (List.mem_cons_of_mem _ hx))
        have := pos e.key (ha e (List.mem_cons_self ..))
        rw [tot_cons, List.length_cons]
        unfold sz
        omega
  have := (key l h.ks).1
  have := h.le
  omega
end Go.Proofs.Ytflhgoecmcfkkaa
