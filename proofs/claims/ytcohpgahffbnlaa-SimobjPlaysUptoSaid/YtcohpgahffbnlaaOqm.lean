/-
  The reference's store and the program's: what each call does to both, and that they agree. Conditions: those that each theorem names.
-/
import Derived.Test.YtcohpgahffbnlaaOr8
namespace Go.Icz
open Go.RowKit
open Go.Proofs.Ytcohpgahffbnlaa (kb)
/-- What the reference's Put does. -/
def rputA (N : SM) (k : ByteArray) (l : List Nat) : SM := if (rfind N.L k).2 then { N with L := N.L.set (rfind N.L k).1 (k, l) } else { N with L := N.L.take (rfind N.L k).1 ++ [(k, l)] ++ N.L.drop (rfind N.L k).1, ch := N.ch ++ [⟨N.now, k, true⟩] }
def rputM (M : SM) (k : ByteArray) (l : List Nat) : Int × SM :=
  if nameB k = false then (1, M) else if 1048576 < l.length then (6, M) else if !(rfind M.L k).2 && decide (4096 ≤ M.L.length) then (7, M) else (errS M, if okS M then rputA (askS M) k l else askS M)
/-- The same store with its objects in the reference's order. -/
def wl (M : SM) (L : OM) : SM := { M with L := L }
structure AgrL (M : SM) (L : OM) : Prop where
  al : ∀ k, alook L k = alook M.L k
  ri : Rise (akeys L)
theorem al_of {β : Type} : ∀ {N : AL β}, (akeys N).Nodup → ∀ {k : ByteArray} {i : β}, (k, i) ∈ N → alook N k = some i
  | [], _, _, _, h => absurd h (by simp)
  | a :: r, hn, k, i, h => by
    unfold akeys at hn
    rw [List.map_cons, List.nodup_cons] at hn
    unfold alook
    rw [List.find?_cons]
    rcases List.mem_cons.1 h with h' | h'
    · subst h'; simp
    · have : ¬ a.1 = k := fun hh => hn.1 (List.mem_map.2 ⟨(k, i), h', hh.symm⟩)
      simp only [this, decide_false]
      exact al_of hn.2 h'
theorem al_iff {β : Type} {N : AL β} (hn : (akeys N).Nodup) {k : ByteArray} {i : β} : alook N k = some i ↔ (k, i) ∈ N := ⟨al_mem, al_of hn⟩
theorem AgrL.mem {M : SM} {L : OM} (h : AgrL M L) (hn : (akeys M.L).Nodup) {e : ByteArray × List Nat} : e ∈ L ↔ e ∈ M.L := by
  rw [show e = (e.1, e.2) from rfl, ← al_iff h.ri.nodup, ← al_iff hn, h.al]
theorem AgrL.len {M : SM} {L : OM} (h : AgrL M L) (hn : (akeys M.L).Nodup) : L.length = M.L.length := by
  have hp : (akeys L).Perm (akeys M.L) := (List.perm_ext_iff_of_nodup h.ri.nodup hn).2 fun k => by rw [← al_isSome, ← al_isSome, h.al k]
  have := hp.length_eq
  simpa [akeys] using this
theorem AgrL.wf {M : SM} {L : OM} {c : Nat} (h : AgrL M L) (w : WfS M c) : WfS (wl M L) c :=
  ⟨h.ri.nodup, fun e he => w.kz e ((h.mem w.nn).1 he), fun e he => w.bz e ((h.mem w.nn).1 he), by show L.length ≤ 4096; rw [h.len w.nn]; exact w.ln, w.cz, w.ct, w.so, w.nw, w.lg, w.mo, w.ca, w.lc, w.hc, w.lf⟩
theorem AgrL.found {M : SM} {L : OM} (h : AgrL M L) (k : ByteArray) : (rfind L k).2 = (alook M.L k).isSome := by rw [rfind_some h.ri, h.al]
theorem rfind_lpl (R : OM) (k : ByteArray) : (rfind R k).1 = lpl (akeys R) k := by
  induction R with
  | nil => rfl
  | cons e t ih =>
    show (rfind (e :: t) k).1 = lpl (e.1 :: akeys t) k
    unfold rfind lpl
    by_cases hb : blt e.1 k = true
    · rw [if_pos hb, if_pos hb, ih]
    · rw [if_neg hb, if_neg hb]
theorem opt_ext {β : Type} {a b : Option β} (h : ∀ x, a = some x ↔ b = some x) : a = b := Option.ext fun x => h x
theorem keys_ins (L : OM) (i : Nat) (k : ByteArray) (l : List Nat) : akeys (L.take i ++ [(k, l)] ++ L.drop i) = (akeys L).take i ++ [k] ++ (akeys L).drop i := by
  unfold akeys
  rw [List.map_append, List.map_append, List.map_take, List.map_drop]
  rfl
theorem AgrL.ins {M M' : SM} {L : OM} {k : ByteArray} {l : List Nat} (h : AgrL M L) (hk : alook M.L k = none) (hM : M'.L = aput M.L k l) : AgrL M' (L.take (rfind L k).1 ++ [(k, l)] ++ L.drop (rfind L k).1) := by
  have hr : Rise (akeys (L.take (rfind L k).1 ++ [(k, l)] ++ L.drop (rfind L k).1)) := by
    rw [keys_ins, rfind_lpl]
    exact h.ri.ins (al_not.1 (by rw [h.al, hk]))
  refine ⟨fun j => opt_ext fun x => ?_, hr⟩
  rw [al_iff hr.nodup, hM]
  have hm : ∀ e, e ∈ L.take (rfind L k).1 ++ [(k, l)] ++ L.drop (rfind L k).1 ↔ e = (k, l) ∨ e ∈ L := fun e => by
    have : e ∈ L ↔ e ∈ L.take (rfind L k).1 ∨ e ∈ L.drop (rfind L k).1 := by rw [← List.mem_append, List.take_append_drop]
    rw [this, List.mem_append, List.mem_append, List.mem_singleton]
    constructor
    · rintro ((a | a) | a)
      · exact .inr (.inl a)
      · exact .inl a
      · exact .inr (.inr a)
    · rintro (a | a | a)
      · exact .inl (.inr a)
      · exact .inl (.inl a)
      · exact .inr a
  rw [hm]
  by_cases e : j = k
  · subst e
    rw [al_put_same]
    constructor
    · rintro (a | a)
      · injection a with _ a; rw [a]
      · have := al_of h.ri.nodup a
        rw [h.al, hk] at this
        cases this
    · intro a
      injection a with a
      exact .inl (by rw [a])
  · rw [al_put_other e, ← h.al, al_iff h.ri.nodup]
    constructor
    · rintro (a | a)
      · injection a with a _; exact absurd a e
      · exact a
    · exact .inr
theorem set_self {α : Type} : ∀ (l : List α) (i : Nat) (h : i < l.length), l.set i l[i] = l := fun l i h => List.set_getElem_self h
theorem keys_set {L : OM} {i : Nat} (hi : i < L.length) {k : ByteArray} (hk : L[i].1 = k) (l : List Nat) : akeys (L.set i (k, l)) = akeys L := by
  unfold akeys
  rw [List.map_set]
  have : k = (L.map (·.1))[i]'(by rw [List.length_map]; exact hi) := by rw [List.getElem_map]; exact hk.symm
  show (L.map (·.1)).set i k = _
  rw [this, set_self]
theorem AgrL.set {M M' : SM} {L : OM} {k : ByteArray} {l : List Nat} (h : AgrL M L) (hf : (rfind L k).2 = true) (hM : M'.L = aput M.L k l) : AgrL M' (L.set (rfind L k).1 (k, l)) := by
  obtain ⟨hi, hk⟩ := rfind_there L k hf
  have hr : Rise (akeys (L.set (rfind L k).1 (k, l))) := by rw [keys_set hi hk]; exact h.ri
  refine ⟨fun j => opt_ext fun x => ?_, hr⟩
  rw [al_iff hr.nodup, hM]
  have hset : L.set (rfind L k).1 (k, l) = L.take (rfind L k).1 ++ (k, l) :: L.drop ((rfind L k).1 + 1) := List.set_eq_take_append_cons_drop.trans (by rw [if_pos hi])
  have hL : L = L.take (rfind L k).1 ++ L[(rfind L k).1] :: L.drop ((rfind L k).1 + 1) := by rw [← List.drop_eq_getElem_cons hi, List.take_append_drop]
  have hn := h.ri.nodup
  have hk1 : ∀ e, e ∈ L.take (rfind L k).1 ∨ e ∈ L.drop ((rfind L k).1 + 1) → e.1 ≠ k := fun e he hek => by
    rw [hL] at hn
    unfold akeys at hn
    rw [List.map_append, List.map_cons, hk] at hn
    obtain ⟨_, n2, n3⟩ := List.nodup_append.1 hn
    rcases he with he | he
    · exact n3 e.1 (List.mem_map.2 ⟨e, he, rfl⟩) k (List.mem_cons_self ..) hek
    · exact (List.nodup_cons.1 n2).1 (List.mem_map.2 ⟨e, he, hek⟩)
  have hm : ∀ y, (j, y) ∈ L.set (rfind L k).1 (k, l) ↔ (j, y) = (k, l) ∨ (j ≠ k ∧ (j, y) ∈ L) := fun y => by
    rw [hset, List.mem_append, List.mem_cons]
    constructor
    · rintro (a | a | a)
      · exact .inr ⟨hk1 _ (.inl a), List.mem_of_mem_take a⟩
      · exact .inl a
      · exact .inr ⟨hk1 _ (.inr a), List.mem_of_mem_drop a⟩
    · rintro (a | ⟨a, b⟩)
      · exact .inr (.inl a)
      · rw [hL, List.mem_append, List.mem_cons] at b
        rcases b with b | b | b
        · exact .inl b
        · exact absurd (by rw [← b] at hk; exact hk) a
        · exact .inr (.inr b)
  rw [hm]
  by_cases e : j = k
  · subst e
    rw [al_put_same]
    constructor
    · rintro (a | a)
      · injection a with _ a; rw [a]
      · exact absurd rfl a.1
    · intro a
      injection a with a
      exact .inl (by rw [a])
  · rw [al_put_other e, ← h.al, al_iff h.ri.nodup]
    constructor
    · rintro (a | a)
      · injection a with a _; exact absurd a e
      · exact a.2
    · exact fun a => .inr ⟨e, a⟩
theorem AgrL.cut {M M' : SM} {L : OM} {k : ByteArray} (h : AgrL M L) (hf : (rfind L k).2 = true) (hM : M'.L = adel k M.L) : AgrL M' (rcut L (rfind L k).1) := by
  obtain ⟨hi, hk⟩ := rfind_there L k hf
  have hL : L = L.take (rfind L k).1 ++ L[(rfind L k).1] :: L.drop ((rfind L k).1 + 1) := by rw [← List.drop_eq_getElem_cons hi, List.take_append_drop]
  have hsub : (rcut L (rfind L k).1).Sublist L := by
    unfold rcut
    conv => rhs; rw [hL]
    exact (List.Sublist.refl _).append (List.sublist_cons_self _ _)
  have hr : Rise (akeys (rcut L (rfind L k).1)) := h.ri.sublist (hsub.map _)
  refine ⟨fun j => opt_ext fun x => ?_, hr⟩
  rw [al_iff hr.nodup, hM]
  have hn := h.ri.nodup
  have hk1 : ∀ e, e ∈ L.take (rfind L k).1 ∨ e ∈ L.drop ((rfind L k).1 + 1) → e.1 ≠ k := fun e he hek => by
    rw [hL] at hn
    unfold akeys at hn
    rw [List.map_append, List.map_cons, hk] at hn
    obtain ⟨_, n2, n3⟩ := List.nodup_append.1 hn
    rcases he with he | he
    · exact n3 e.1 (List.mem_map.2 ⟨e, he, rfl⟩) k (List.mem_cons_self ..) hek
    · exact (List.nodup_cons.1 n2).1 (List.mem_map.2 ⟨e, he, hek⟩)
  have hm : ∀ y, (j, y) ∈ rcut L (rfind L k).1 ↔ (j ≠ k ∧ (j, y) ∈ L) := fun y => by
    unfold rcut
    rw [List.mem_append]
    constructor
    · rintro (a | a)
      · exact ⟨hk1 _ (.inl a), List.mem_of_mem_take a⟩
      · exact ⟨hk1 _ (.inr a), List.mem_of_mem_drop a⟩
    · rintro ⟨a, b⟩
      rw [hL, List.mem_append, List.mem_cons] at b
      rcases b with b | b | b
      · exact .inl b
      · exact absurd (by rw [← b] at hk; exact hk) a
      · exact .inr b
  rw [hm]
  by_cases e : j = k
  · subst e
    rw [al_del_same]
    exact ⟨fun a => absurd rfl a.1, fun a => (by cases a)⟩
  · rw [al_del_other e, ← h.al, al_iff h.ri.nodup]
    exact ⟨fun a => a.2, fun a => ⟨e, a⟩⟩
theorem put_agr {M : SM} {L : OM} (h : AgrL M L) (hn : (akeys M.L).Nodup) (k : ByteArray) (l : List Nat) : ∃ L', rputM (wl M L) k l = ((putM M k l).1, wl (putM M k l).2 L') ∧ AgrL (putM M k l).2 L' := by
  unfold rputM putM
  by_cases h1 : nameB k = false
  · rw [if_pos h1, if_pos h1]; exact ⟨L, rfl, h⟩
  rw [if_neg h1, if_neg h1]
  by_cases h2 : 1048576 < l.length
  · rw [if_pos h2, if_pos h2]; exact ⟨L, rfl, h⟩
  rw [if_neg h2, if_neg h2]
  have hfl : (!(rfind (wl M L).L k).2 && decide (4096 ≤ (wl M L).L.length)) = fullS M k := by
    show (!(rfind L k).2 && decide (4096 ≤ L.length)) = _
    unfold fullS
    rw [h.found, h.len hn, Bool.and_comm]
  rw [hfl]
  by_cases h3 : fullS M k = true
  · rw [if_pos h3, if_pos h3]; exact ⟨L, rfl, h⟩
  rw [if_neg h3, if_neg h3]
  have ho : okS (wl M L) = okS M := rfl
  have he : errS (wl M L) = errS M := rfl
  rw [ho, he]
  by_cases hok : okS M = true
  · rw [if_pos hok, if_pos hok]
    cases hs : (alook M.L k).isSome
    · have hf : (rfind L k).2 = false := by rw [h.found, hs]
      have hno : alook M.L k = none := by simpa using hs
      have ha : actPut (askS M) k l = { askS M with L := aput M.L k l, ch := M.ch ++ [⟨M.now, k, true⟩] } := by
        unfold actPut noteS
        rw [if_neg (by rw [L_ask, hs]; decide)]
        rfl
      refine ⟨L.take (rfind L k).1 ++ [(k, l)] ++ L.drop (rfind L k).1, ?_, h.ins hno rfl⟩
      rw [ha]
      have : rputA (askS (wl M L)) k l = { askS (wl M L) with L := L.take (rfind L k).1 ++ [(k, l)] ++ L.drop (rfind L k).1, ch := M.ch ++ [⟨M.now, k, true⟩] } := by
        unfold rputA
        rw [if_neg (by show ¬ (rfind L k).2 = true; rw [hf]; decide)]
        rfl
      rw [this]
      rfl
    · have hf : (rfind L k).2 = true := by rw [h.found, hs]
      have ha : actPut (askS M) k l = { askS M with L := aput M.L k l } := by
        unfold actPut noteS
        rw [if_pos (by rw [L_ask, hs])]
        rfl
      refine ⟨L.set (rfind L k).1 (k, l), ?_, h.set hf rfl⟩
      rw [ha]
      have : rputA (askS (wl M L)) k l = { askS (wl M L) with L := L.set (rfind L k).1 (k, l) } := by
        unfold rputA
        rw [if_pos (by show (rfind L k).2 = true; rw [hf])]
        rfl
      rw [this]
      rfl
  · rw [if_neg hok, if_neg hok]
    exact ⟨L, rfl, ⟨h.al, h.ri⟩⟩
theorem del_agr {M : SM} {L : OM} (h : AgrL M L) (k : ByteArray) : ∃ L', rdelM (wl M L) k = ((delM M k).1, wl (delM M k).2 L') ∧ AgrL (delM M k).2 L' := by
  unfold rdelM delM
  by_cases h1 : nameB k = false
  · rw [if_pos h1, if_pos h1]; exact ⟨L, rfl, h⟩
  rw [if_neg h1, if_neg h1]
  have ho : okS (wl M L) = okS M := rfl
  have he : errS (wl M L) = errS M := rfl
  rw [ho, he]
  by_cases hok : okS M = true
  · rw [if_pos hok, if_pos hok]
    cases hs : (alook M.L k).isSome
    · have hf : (rfind L k).2 = false := by rw [h.found, hs]
      have hno : alook M.L k = none := by simpa using hs
      have ha : actDel (askS M) k = { askS M with L := adel k M.L } := by
        unfold actDel noteS
        rw [if_pos (by rw [L_ask, hs])]
        rfl
      refine ⟨L, ?_, fun j => ?_, h.ri⟩
      · rw [ha]
        have : rdelA (askS (wl M L)) k = askS (wl M L) := by
          unfold rdelA
          rw [if_neg (by show ¬ (rfind L k).2 = true; rw [hf]; decide)]
        rw [this]
        rfl
      · show alook L j = alook (adel k M.L) j
        by_cases e : j = k
        · subst e; rw [al_del_same, h.al, hno]
        · rw [al_del_other e, h.al]
    · have hf : (rfind L k).2 = true := by rw [h.found, hs]
      have ha : actDel (askS M) k = { askS M with L := adel k M.L, ch := M.ch ++ [⟨M.now, k, false⟩] } := by
        unfold actDel noteS
        rw [if_neg (by rw [L_ask, hs]; decide)]
        rfl
      refine ⟨rcut L (rfind L k).1, ?_, h.cut hf rfl⟩
      rw [ha]
      have : rdelA (askS (wl M L)) k = { askS (wl M L) with L := rcut L (rfind L k).1, ch := M.ch ++ [⟨M.now, k, false⟩] } := by
        unfold rdelA
        rw [if_pos (by show (rfind L k).2 = true; rw [hf])]
        rfl
      rw [this]
      rfl
  · rw [if_neg hok, if_neg hok]
    exact ⟨L, rfl, ⟨h.al, h.ri⟩⟩
theorem get_agr {M : SM} {L : OM} (h : AgrL M L) (k : ByteArray) : (getM (wl M L) k).1 = (getM M k).1 ∧ (getM (wl M L) k).2.1 = (getM M k).2.1 ∧ (getM (wl M L) k).2.2 = wl (getM M k).2.2 L := by
  have he : errS (wl M L) = errS M := rfl
  have hl : alook (wl M L).L k = alook M.L k := h.al k
  unfold getM
  rw [he, hl]
  by_cases h1 : nameB k = false
  · rw [if_pos h1, if_pos h1]; exact ⟨rfl, rfl, rfl⟩
  rw [if_neg h1, if_neg h1]
  by_cases h2 : errS M ≠ 0
  · rw [if_pos h2, if_pos h2]; exact ⟨rfl, rfl, rfl⟩
  rw [if_neg h2, if_neg h2]
  cases alook M.L k <;> exact ⟨rfl, rfl, rfl⟩
theorem list_agr (M : SM) (L : OM) (p : ByteArray) : (listM (wl M L) p).2.1 = (listM M p).2.1 ∧ (listM (wl M L) p).2.2 = wl (listM M p).2.2 L ∧ (begB p = false ∨ errS (wl M L) ≠ 0 ↔ begB p = false ∨ errS M ≠ 0) ∧ rlist (wl M L) p = rlist M p := by
  have he : errS (wl M L) = errS M := rfl
  refine ⟨?_, ?_, by rw [he], rfl⟩
  all_goals (
    unfold listM
    rw [he]
    by_cases h1 : begB p = false
    · rw [if_pos h1, if_pos h1]
    rw [if_neg h1, if_neg h1]
    by_cases h2 : errS M ≠ 0
    · rw [if_pos h2, if_pos h2]; try rfl
    rw [if_neg h2, if_neg h2]
    try rfl)
theorem list_names {M : SM} (ht : Tog M) (hs : M.ch.Pairwise fun a b => a.t ≤ b.t) (hn : (akeys M.L).Nodup) (p : ByteArray) : (listM M p).1.map kb = if begB p = false ∨ errS M ≠ 0 then [] else rlist M p := by
  unfold listM
  by_cases h1 : begB p = false
  · rw [if_pos h1, if_pos (.inl h1)]; rfl
  rw [if_neg h1]
  by_cases h2 : errS M ≠ 0
  · rw [if_pos h2, if_pos (.inr h2)]; rfl
  rw [if_neg h2, if_neg (by rintro (a | a); exact h1 a; exact h2 a)]
  exact rlist_is ht hs hn p
theorem keys_names {M : SM} {L : OM} (h : AgrL M L) (hn : (akeys M.L).Nodup) : (rises M.L).map kb = akeys L :=
  rises_rise h.ri hn fun k => by rw [← al_isSome, ← al_isSome, h.al]
theorem tick_agr (M : SM) (L : OM) (n : Int) : (tickM (wl M L) n).1 = (tickM M n).1 ∧ (tickM (wl M L) n).2 = wl (tickM M n).2 L := by
  have hb : tickB (wl M L) n = tickB M n := rfl
  unfold tickM
  rw [hb]
  cases tickB M n <;> exact ⟨rfl, rfl⟩
theorem lag_agr (M : SM) (L : OM) (n : Int) : (lagM (wl M L) n).1 = (lagM M n).1 ∧ (lagM (wl M L) n).2 = wl (lagM M n).2 L := by
  have hb : (wl M L).most = M.most := rfl
  unfold lagM
  rw [hb]
  by_cases h : 0 ≤ n ∧ n ≤ (M.most : Int)
  · rw [if_pos h, if_pos h]; exact ⟨rfl, rfl⟩
  · rw [if_neg h, if_neg h]; exact ⟨rfl, rfl⟩
/-- The changes and the objects stay: so does it that each change turned what was there. -/
theorem Tog.same {M M' : SM} (h : Tog M) (hc : M'.ch = M.ch) (hL : M'.L = M.L) : Tog M' := ⟨fun k => by rw [hc, hL]; exact h.all k, fun pre c post e => h.each pre c post (by rw [← hc]; exact e)⟩
theorem Tog.new (n : Nat) : Tog (newS n) := ⟨fun k => Iff.rfl, fun pre c post e => by
  have : ([] : List Chg) = pre ++ c :: post := e
  simp at this⟩
theorem Tog.snoc {M M' : SM} {x : Chg} (h : Tog M) (hc : M'.ch = M.ch ++ [x]) (hx : x.c = true ↔ x.k ∉ akeys M.L) (hL : ∀ k, k ∈ akeys M'.L ↔ k ∈ akeys (app1 (appl M.ch) x)) : Tog M' := by
  refine ⟨fun k => by rw [hc, appl_snoc, hL], fun pre c post e => ?_⟩
  rw [hc] at e
  rcases List.eq_nil_or_concat post with rfl | ⟨p2, y, rfl⟩
  · have e1 : M.ch = pre := List.append_inj_left' e rfl
    have e2 : [x] = [c] := List.append_inj_right' e rfl
    injection e2 with e2 _
    subst e2
    rw [← e1, h.all]
    exact hx
  · have e' : M.ch ++ [x] = (pre ++ c :: p2) ++ [y] := by rw [e]; simp
    exact h.each pre c p2 (List.append_inj_left' e' rfl)
theorem Tog.put {M : SM} (h : Tog M) (k : ByteArray) (l : List Nat) : Tog (putM M k l).2 := by
  unfold putM
  by_cases h1 : nameB k = false
  · rw [if_pos h1]; exact h
  rw [if_neg h1]
  by_cases h2 : 1048576 < l.length
  · rw [if_pos h2]; exact h
  rw [if_neg h2]
  by_cases h3 : fullS M k = true
  · rw [if_pos h3]; exact h
  rw [if_neg h3]
  by_cases hok : okS M = true
  · rw [if_pos hok]
    show Tog (actPut (askS M) k l)
    cases hs : (alook M.L k).isSome
    · have ha : actPut (askS M) k l = { askS M with L := aput M.L k l, ch := M.ch ++ [⟨M.now, k, true⟩] } := by
        unfold actPut noteS
        rw [if_neg (by rw [L_ask, hs]; decide)]
        rfl
      have hno : k ∉ akeys M.L := al_not.1 (by simpa using hs)
      rw [ha]
      refine h.snoc (x := ⟨M.now, k, true⟩) rfl ⟨fun _ => hno, fun _ => rfl⟩ fun j => ?_
      show j ∈ akeys (aput M.L k l) ↔ j ∈ akeys (aput (appl M.ch) k ())
      rw [mem_keys_put, mem_keys_put, h.all]
    · have ha : actPut (askS M) k l = { askS M with L := aput M.L k l } := by
        unfold actPut noteS
        rw [if_pos (by rw [L_ask, hs])]
        rfl
      rw [ha]
      refine ⟨fun j => ?_, fun pre c post e => h.each pre c post e⟩
      show j ∈ akeys (appl M.ch) ↔ j ∈ akeys (aput M.L k l)
      rw [mem_keys_put, h.all]
      refine ⟨.inr, fun a => ?_⟩
      rcases a with rfl | a
      · exact al_isSome.1 hs
      · exact a
  · rw [if_neg hok]
    exact h.same rfl rfl
theorem Tog.del {M : SM} (h : Tog M) (k : ByteArray) : Tog (delM M k).2 := by
  unfold delM
  by_cases h1 : nameB k = false
  · rw [if_pos h1]; exact h
  rw [if_neg h1]
  by_cases hok : okS M = true
  · rw [if_pos hok]
    show Tog (actDel (askS M) k)
    cases hs : (alook M.L k).isSome
    · have ha : actDel (askS M) k = { askS M with L := adel k M.L } := by
        unfold actDel noteS
        rw [if_pos (by rw [L_ask, hs])]
        rfl
      have hno : k ∉ akeys M.L := al_not.1 (by simpa using hs)
      rw [ha]
      refine ⟨fun j => ?_, fun pre c post e => h.each pre c post e⟩
      show j ∈ akeys (appl M.ch) ↔ j ∈ akeys (adel k M.L)
      rw [mem_keys_del, h.all]
      exact ⟨fun a => ⟨fun e => hno (e ▸ a), a⟩, fun a => a.2⟩
    · have ha : actDel (askS M) k = { askS M with L := adel k M.L, ch := M.ch ++ [⟨M.now, k, false⟩] } := by
        unfold actDel noteS
        rw [if_neg (by rw [L_ask, hs]; decide)]
        rfl
      rw [ha]
      refine h.snoc (x := ⟨M.now, k, false⟩) rfl ⟨fun a => (by cases a), fun a => absurd (al_isSome.1 hs) a⟩ fun j => ?_
      show j ∈ akeys (adel k M.L) ↔ j ∈ akeys (adel k (appl M.ch))
      rw [mem_keys_del, mem_keys_del, h.all]
  · rw [if_neg hok]
    exact h.same rfl rfl
end Go.Icz
