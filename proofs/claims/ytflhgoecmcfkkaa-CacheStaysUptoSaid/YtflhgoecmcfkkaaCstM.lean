/-
  CacheStays: what is known of what was put last and used last; the law's two maps. Conditions: those that each theorem names.
-/
import Derived.Test.YtflhgoecmcfkkaaCbndW
import Derived.Maps.StringElems
namespace Go.Icz
open Go.RowKit
def upd {α : Type} (f : ByteArray → α) (k : ByteArray) (x : α) : ByteArray → α := fun j => if j = k then x else f j
theorem upd_same {α : Type} (f : ByteArray → α) (k : ByteArray) (x : α) : upd f k x k = x := if_pos rfl
theorem upd_other {α : Type} (f : ByteArray → α) {k j : ByteArray} (x : α) (h : j ≠ k) : upd f k x j = f j := if_neg h
structure Inv (L : List It) (last : ByteArray → ByteArray) (used : ByteArray → Nat) (i : Nat) : Prop where
  va : ∀ e ∈ L, last e.key = str e.val
  up : L.Pairwise fun a b => used a.key < used b.key
  ps : ∀ e ∈ L, 0 < used e.key
  bd : ∀ k, used k ≤ i
  out : ∀ k, isIn k L = false → ∀ e ∈ L, used k ≤ used e.key
theorem Inv.start : Inv [] (fun _ => ⟨#[]⟩) (fun _ => 0) 0 := ⟨by simp, by simp, by simp, fun _ => Nat.le_refl _, by simp⟩
theorem Inv.same {L : List It} {last : ByteArray → ByteArray} {used : ByteArray → Nat} {i : Nat} (h : Inv L last used i) : Inv L last used (i + 1) :=
  ⟨h.va, h.up, h.ps, fun k => Nat.le_succ_of_le (h.bd k), h.out⟩
theorem not_isIn {k : ByteArray} {l : List It} : isIn k l = false ↔ ∀ e ∈ l, e.key ≠ k := by
  unfold isIn
  rw [List.any_eq_false]
  exact ⟨fun h e he => by simpa using h e he, fun h e he => by simpa using h e he⟩
theorem mem_del {k : ByteArray} {l : List It} {e : It} : e ∈ del k l ↔ e ∈ l ∧ e.key ≠ k := by
  unfold del
  rw [List.mem_filter]
  simp
/-- Some go from the front; one comes at the end. -/
theorem Inv.last {L xs R : List It} {last last' : ByteArray → ByteArray} {used : ByteArray → Nat} {i : Nat} (h : Inv L last used i) (k : ByteArray) (n : It) (hn : n.key = k) (hR : del k L = xs ++ R) (h1 : last' k = str n.val) (h2 : ∀ j, j ≠ k → last' j = last j) :
    Inv (R ++ [n]) last' (upd used k (i + 1)) (i + 1) := by
  have hRL : ∀ e ∈ R, e ∈ L ∧ e.key ≠ k := fun e he => mem_del.1 (by rw [hR]; exact List.mem_append.2 (.inr he))
  have hpd : (del k L).Pairwise fun a b => used a.key < used b.key := h.up.sublist List.filter_sublist
  rw [hR] at hpd
  refine ⟨fun e he => ?_, ?_, fun e he => ?_, fun j => ?_, fun j hj e he => ?_⟩
  · rcases List.mem_append.1 he with he | he
    · rw [h2 _ (hRL e he).2]
      exact h.va e (hRL e he).1
    · obtain rfl : e = n := by simpa using he
      rw [hn, h1]
  · rw [List.pairwise_append]
    refine ⟨?_, by simp, fun a ha b hb => ?_⟩
    · refine ((List.pairwise_append.1 hpd).2.1).imp_of_mem ?_
      intro a b ha hb hab
      rw [upd_other _ _ (hRL a ha).2, upd_other _ _ (hRL b hb).2]
      exact hab
    · obtain rfl : b = n := by simpa using hb
      rw [hn, upd_same, upd_other _ _ (hRL a ha).2]
      exact Nat.lt_succ_of_le (h.bd _)
  · rcases List.mem_append.1 he with he | he
    · rw [upd_other _ _ (hRL e he).2]
      exact h.ps e (hRL e he).1
    · obtain rfl : e = n := by simpa using he
      rw [hn, upd_same]
      omega
  · by_cases hjk : j = k
    · rw [hjk, upd_same]
      omega
    · rw [upd_other _ _ hjk]
      exact Nat.le_succ_of_le (h.bd j)
  · have hj' := not_isIn.1 hj
    have hjk : j ≠ k := fun e' => hj' n (by simp) (by rw [hn, e'])
    rw [upd_other _ _ hjk]
    rcases List.mem_append.1 he with he | he
    · rw [upd_other _ _ (hRL e he).2]
      by_cases hin : isIn j L = false
      · exact h.out j hin e (hRL e he).1
      · have hin : isIn j L = true := by simpa using hin
        obtain ⟨a, x, b, hL, hx⟩ := isIn_split hin
        have hxd : x ∈ del k L := mem_del.2 ⟨by rw [hL]; simp, by rw [hx]; exact hjk⟩
        rw [hR] at hxd
        rcases List.mem_append.1 hxd with hxx | hxx
        · have := (List.pairwise_append.1 hpd).2.2 x hxx e he
          rw [hx] at this
          omega
        · exact absurd hx (hj' x (List.mem_append.2 (.inl hxx)))
    · obtain rfl : e = n := by simpa using he
      rw [hn, upd_same]
      exact Nat.le_succ_of_le (h.bd j)
theorem Inv.get {L : List It} {last : ByteArray → ByteArray} {used : ByteArray → Nat} {i : Nat} (h : Inv L last used i) (k : ByteArray) (hk : (L.map (·.key)).Nodup) (hin : isIn k L = true) :
    Inv (bump k L) last (upd used k (i + 1)) (i + 1) ∧ last k = str (valC k L) := by
  obtain ⟨xs, e, ys, rfl, rfl⟩ := isIn_split hin
  unfold bump valC
  rw [theIt_mid hk]
  have hv := h.va e (by simp)
  exact ⟨h.last e.key e rfl (xs := []) rfl hv fun _ _ => rfl, hv⟩
theorem Inv.drop {L : List It} {last : ByteArray → ByteArray} {used : ByteArray → Nat} {i : Nat} (h : Inv L last used i) (k : ByteArray) : Inv (del k L) last (upd used k 0) (i + 1) := by
  refine ⟨fun e he => h.va e (mem_del.1 he).1, ?_, fun e he => ?_, fun j => ?_, fun j hj e he => ?_⟩
  · refine (h.up.sublist List.filter_sublist).imp_of_mem ?_
    intro a b ha hb hab
    rw [upd_other _ _ (mem_del.1 ha).2, upd_other _ _ (mem_del.1 hb).2]
    exact hab
  · rw [upd_other _ _ (mem_del.1 he).2]
    exact h.ps e (mem_del.1 he).1
  · by_cases hjk : j = k
    · rw [hjk, upd_same]; omega
    · rw [upd_other _ _ hjk]; exact Nat.le_succ_of_le (h.bd j)
  · by_cases hjk : j = k
    · rw [hjk, upd_same]; omega
    · rw [upd_other _ _ hjk, upd_other _ _ (mem_del.1 he).2]
      refine h.out j (not_isIn.2 fun x hx hxj => ?_) e (mem_del.1 he).1
      exact not_isIn.1 hj x (mem_del.2 ⟨hx, by rw [hxj]; exact hjk⟩) hxj
/-- The uses in the list's order, behind a 0. -/
def ol (used : ByteArray → Nat) (L : List It) (j : Nat) : Nat := (0 :: L.map fun e => used e.key).getD j 0
theorem ol_succ {used : ByteArray → Nat} {L : List It} {j : Nat} (hj : j < L.length) : ol used L (j + 1) = used L[j].key := by
  unfold ol
  simp [hj]
theorem ol_lt {L : List It} {last : ByteArray → ByteArray} {used : ByteArray → Nat} {i : Nat} (h : Inv L last used i) {j : Nat} (hj : j < L.length) : ol used L j < used L[j].key := by
  cases j with
  | zero => exact h.ps _ (List.getElem_mem hj)
  | succ j =>
    rw [ol_succ (by omega)]
    exact List.pairwise_iff_getElem.1 h.up j (j + 1) (by omega) hj (by omega)
end Go.Icz
namespace Go.Proofs.Ytflhgoecmcfkkaa
open Go.RowKit Go.Icz Go.Maps
/-- A map from strings to strings. -/
def MS (w : World) (b n : Nat) (f : ByteArray → ByteArray) : Prop := ∃ D : DataW Unit, w.ownsMap Try.prog 9 (plainElem Try.prog 9) b n D ∧ ∀ k, D.atKey (kl k) (.lit (.string [])) = .lit (.string (f k).data.toList)
/-- A map from strings to numbers. -/
def MI (w : World) (b n : Nat) (f : ByteArray → Nat) : Prop := ∃ D : DataW Unit, w.ownsMap Try.prog 9 (plainElem Try.prog 3) b n D ∧ ∀ k, D.atKey (kl k) (.lit (.int .i64 0)) = .lit (.int .i64 (f k))
theorem MS.look {w : World} {b n : Nat} {f : ByteArray → ByteArray} (h : MS w b n f) (k : ByteArray) (hk : k.size ≤ maxLen) : (Instr.lookup 50 (.map (some b)) (.string k) false).run Try.prog w = .ok (.string (f k)) w := by
  obtain ⟨D, ho, ha⟩ := h
  obtain ⟨v, ps, hrun, hv⟩ := ho.lookup (string_keyed Try.underlying9) Try.underlying50 (Try.zeroValue9 w) (zd := .lit (.string [])) (zp := []) (plainElem_string Try.underlying9 (s := ⟨#[]⟩) (by decide)) (keyS hk)
  rw [ha k] at hv
  obtain ⟨s, rfl, hz, _⟩ := plainElem_string_inv Try.underlying9 hv
  injection hz with hz _
  injection hz with hz
  injection hz with hz
  rw [hrun, show s = f k from ByteArray.ext (Array.ext' hz.symm)]
theorem MI.look {w : World} {b n : Nat} {f : ByteArray → Nat} (h : MI w b n f) (k : ByteArray) (hk : k.size ≤ maxLen) : (Instr.lookup 51 (.map (some b)) (.string k) false).run Try.prog w = .ok (.int .i64 (f k)) w := by
  obtain ⟨D, ho, ha⟩ := h
  obtain ⟨v, ps, hrun, hv⟩ := ho.lookup (string_keyed Try.underlying9) Try.underlying51 (Try.zeroValue3 w) (zd := .lit (.int .i64 0)) (zp := []) (plainElem_int Try.underlying3 (by decide)) (keyS hk)
  rw [ha k] at hv
  obtain ⟨a, rfl, hz, _⟩ := plainElem_int_inv Try.underlying3 hv
  injection hz with hz _
  injection hz with hz
  injection hz with _ hz
  rw [hrun, hz]
theorem MS.store {w : World} {b n : Nat} {f : ByteArray → ByteArray} (h : MS w b n f) (k : ByteArray) (hk : k.size ≤ maxLen) (x : ByteArray) (hx : x.size ≤ maxLen) (hn : n < maxLen) : ∃ w', (Instr.mapUpdate 50 (.map (some b)) (.string k) (.string x)).run Try.prog w = .ok () w' ∧ MS w' b (n + 1) (upd f k x) ∧ Tch (· = b) w w' := by
  obtain ⟨D, ho, ha⟩ := h
  obtain ⟨w', hrun, ho', ht⟩ := ho.store (string_keyed Try.underlying9) Try.underlying50 hn (keyS hk) (val := .string x) (d := .lit (.string x.data.toList)) (ps := []) (plainElem_string Try.underlying9 hx)
  refine ⟨w', hrun, ⟨_, ho', fun j => ?_⟩, Tch.turned ht⟩
  by_cases hj : j = k
  · rw [hj, upd_same, Maps.atKey_put_same ho.isMap (kl_key _)]
  · rw [upd_other _ _ hj, Maps.atKey_put_other (kl_ne hj), ha]
theorem MI.store {w : World} {b n : Nat} {f : ByteArray → Nat} (h : MI w b n f) (k : ByteArray) (hk : k.size ≤ maxLen) (x : Nat) (hx : x ≤ 1048576) (hn : n < maxLen) : ∃ w', (Instr.mapUpdate 51 (.map (some b)) (.string k) (.int .i64 x)).run Try.prog w = .ok () w' ∧ MI w' b (n + 1) (upd f k x) ∧ Tch (· = b) w w' := by
  obtain ⟨D, ho, ha⟩ := h
  have hwf : (Lit.int .i64 (x : Int)).wf = true := by
    have e1 : IntKind.i64.min = -9223372036854775808 := by decide
    have e2 : IntKind.i64.max = 9223372036854775807 := by decide
    simp only [Lit.wf, e1, e2]
    simp
    omega
  obtain ⟨w', hrun, ho', ht⟩ := ho.store (string_keyed Try.underlying9) Try.underlying51 hn (keyS hk) (val := .int .i64 x) (d := .lit (.int .i64 x)) (ps := []) (plainElem_int Try.underlying3 hwf)
  refine ⟨w', hrun, ⟨_, ho', fun j => ?_⟩, Tch.turned ht⟩
  by_cases hj : j = k
  · rw [hj, upd_same, Maps.atKey_put_same ho.isMap (kl_key _)]
  · rw [upd_other _ _ hj, Maps.atKey_put_other (kl_ne hj), ha]
end Go.Proofs.Ytflhgoecmcfkkaa
