/-
  A disk in memory: its plate, its names, its changes, its files; what of it stays when other memory turns. Conditions: those that each theorem names.
-/
import Derived.Test.YtjpneohachkheaaGRo
import Derived.Test.YtjpneohachkheaaSm0
import Derived.Test.YtjpneohachkheaaRows
import Derived.Maps.OwnSet
import Derived.Maps.OwnOps
import Derived.Maps.Views
import Derived.Maps.Keyed
import Derived.Lib.SliceRun
namespace Go.Icz
open Go.RowKit Go.Maps Go.ChangeMaps Go.MapKept
theorem ownsMap_touch {H : Type} {P : Program} {k : TypeId} {R : Value → Option (DataW H × List MemPlace)} {S : Nat → Prop} {w w' : World} {b n : Nat} {D : DataW H} (h : w.ownsMap P k R b n D) (t : Tch S w w') (hS : ¬ S b) : w'.ownsMap P k R b n D := by
  obtain ⟨es, clock, h1, h2, h3, h4⟩ := h
  exact ⟨es, clock, (t.block b (Array.getElem?_eq_some_iff.1 h1).1 hS).trans h1, h2, h3, h4⟩
theorem ownsMap_le {H : Type} {P : Program} {k : TypeId} {R : Value → Option (DataW H × List MemPlace)} {w : World} {b n m : Nat} {D : DataW H} (h : w.ownsMap P k R b n D) (hm : Maps.size D ≤ m) : w.ownsMap P k R b m D := by
  obtain ⟨es, clock, h1, h2, h3, rfl⟩ := h
  refine ⟨es, clock, h1, h2, ?_, rfl⟩
  rw [Maps.size_eq, length_read] at hm
  exact hm
theorem Tch.turned {w w' : World} {b : Nat} (h : w.mapTurned w' b) : Tch (· = b) w w' := by
  have g := h.grown
  exact ⟨g.os, g.tape, g.output, g.size, fun k hk hn => g.block k hk (fun e => by injection e with e; exact hn e)⟩
/-- A pointer, read as its block's number. -/
def rPt : Value → Option (DataW Unit × List MemPlace)
  | .pointer none => some (.nil, [])
  | .pointer (some ⟨b, 0, none⟩) => some (.lit (.int .i64 b), [])
  | _ => none
theorem rPt_some {v : Value} {b : Nat} {p : List MemPlace} (h : rPt v = some (.lit (.int .i64 b), p)) : v = .pointer (some ⟨b, 0, none⟩) := by
  unfold rPt at h
  split at h
  · simp at h
  · rename_i c
    simp only [Option.some.injEq, Prod.mk.injEq, DataW.lit.injEq, Lit.int.injEq, true_and] at h
    have : c = b := by omega
    rw [this]
  · cases h
theorem rPt_none {v : Value} {p : List MemPlace} (h : rPt v = some (.nil, p)) : v = .pointer none := by
  unfold rPt at h
  split at h
  · rfl
  · simp at h
  · cases h
def kl (k : ByteArray) : Lit := .string k.data.toList
theorem kl_inj {a b : ByteArray} (h : kl a = kl b) : a = b := by
  unfold kl at h
  injection h with h
  exact ByteArray.ext (Array.ext' h)
theorem kl_ne {a b : ByteArray} (h : a ≠ b) : kl a ≠ kl b := fun e => h (kl_inj e)
theorem kl_key (a : ByteArray) : WideAt.IsKeyLit (kl a) := trivial
/-- The map says where each name's file lies. -/
structure Agr (D : DataW Unit) (N : NM) (gs : List Nat) : Prop where
  has : ∀ k, Maps.has D (kl k) = (nlook N k).isSome
  at_ : ∀ k i, nlook N k = some i → D.atKey (kl k) .nil = .lit (.int .i64 (gs.getD i 0 : Nat))
  size : Maps.size D = N.length
theorem Agr.del {D : DataW Unit} {N : NM} {gs : List Nat} (h : Agr D N gs) (hd : Tidy D) (hk : (nkeys N).Nodup) (k : ByteArray) : Agr (D.del (kl k)) (ndel k N) gs := by
  refine ⟨fun j => ?_, fun j i hj => ?_, ?_⟩
  · by_cases e : j = k
    · subst e
      rw [Maps.has_del_same, look_del_same]
      rfl
    · rw [Maps.has_del_other (kl_ne e), h.has, look_del_other e]
  · by_cases e : j = k
    · subst e
      rw [look_del_same] at hj
      cases hj
    · rw [look_del_other e] at hj
      rw [Maps.atKey_del_other (kl_ne e)]
      exact h.at_ j i hj
  · have h1 := Maps.size_del hd (k := kl k)
    have h2 := len_del (k := k) hk
    rw [h.has, h.size] at h1
    omega
theorem Agr.put {D : DataW Unit} {N : NM} {gs : List Nat} (h : Agr D N gs) (hd : Tidy D) (hk : (nkeys N).Nodup) (k : ByteArray) {i g : Nat} (hg : gs.getD i 0 = g) : Agr (D.put (kl k) (.lit (.int .i64 (g : Nat)))) (nput N k i) gs := by
  refine ⟨fun j => ?_, fun j i' hj => ?_, ?_⟩
  · by_cases e : j = k
    · subst e
      rw [Maps.has_put_same hd.isMap (kl_key _), look_put_same]
      rfl
    · rw [Maps.has_put_other (kl_ne e), h.has, look_put_other e]
  · by_cases e : j = k
    · subst e
      rw [look_put_same] at hj
      injection hj with hj
      subst hj
      rw [hg]
      exact Maps.atKey_put_same hd.isMap (kl_key _) _ _
    · rw [look_put_other e] at hj
      rw [Maps.atKey_put_other (kl_ne e)]
      exact h.at_ j i' hj
  · rw [Maps.size_put hd, len_put hk, h.has, h.size]
theorem Agr.more {D : DataW Unit} {N : NM} {gs : List Nat} (h : Agr D N gs) (hi : ∀ e ∈ N, e.2 < gs.length) (g : Nat) : Agr D N (gs ++ [g]) := by
  refine ⟨h.has, fun k i hk => ?_, h.size⟩
  rw [h.at_ k i hk]
  have := hi _ (look_mem hk)
  simp only [List.getD_eq_getElem?_getD]
  rw [List.getElem?_append_left this]
theorem Agr.nil (gs : List Nat) : Agr (.map []) [] gs := ⟨fun _ => rfl, fun _ _ h => (by cases h), rfl⟩
/-- An effect in memory. -/
inductive Ev where
  | create (k : ByteArray) (g : Nat)
  | rename (a b : ByteArray)
  | remove (k : ByteArray)
def evOf (gs : List Nat) : Ef → Ev
  | .create k i => .create k (gs.getD i 0)
  | .rename a b => .rename a b
  | .remove k => .remove k
def evV : Ev → Value
  | .create k g => .iface 85 (.agg #[.string k, .pointer (some ⟨g, 0, none⟩)])
  | .rename a b => .iface 89 (.agg #[.string a, .string b])
  | .remove k => .iface 91 (.agg #[.string k])
theorem evOf_more {gs : List Nat} {x : Ef} (h : ∀ i ∈ efi x, i < gs.length) (g : Nat) : evOf (gs ++ [g]) x = evOf gs x := by
  cases x with
  | create k i =>
    have := h i (by simp [efi])
    unfold evOf
    simp only [List.getD_eq_getElem?_getD]
    rw [List.getElem?_append_left this]
  | rename a b => rfl
  | remove k => rfl
def KB : Kd Nat where
  e := 5
  z := 1
  enc := fun x => [.int .u8 (x : Int)]
  len := fun _ => rfl
  pos := by decide
  one := by
    intro x u hu
    simp only [List.mem_cons, List.not_mem_nil, or_false] at hu
    subst hu
    rfl
def KN : Kd Nat where
  e := 3
  z := 1
  enc := fun x => [.int .i64 (x : Int)]
  len := fun _ => rfl
  pos := by decide
  one := by
    intro x u hu
    simp only [List.mem_cons, List.not_mem_nil, or_false] at hu
    subst hu
    rfl
def KBo : Kd Bool where
  e := 4
  z := 1
  enc := fun x => [.bool x]
  len := fun _ => rfl
  pos := by decide
  one := by
    intro x u hu
    simp only [List.mem_cons, List.not_mem_nil, or_false] at hu
    subst hu
    rfl
def KS : Kd ByteArray where
  e := 9
  z := 1
  enc := fun x => [.string x]
  len := fun _ => rfl
  pos := by decide
  one := by
    intro x u hu
    simp only [List.mem_cons, List.not_mem_nil, or_false] at hu
    subst hu
    rfl
def KE : Kd Ev where
  e := 72
  z := 1
  enc := fun x => [evV x]
  len := fun _ => rfl
  pos := by decide
  one := by
    intro x u hu
    simp only [List.mem_cons, List.not_mem_nil, or_false] at hu
    subst hu
    cases x <;> rfl
theorem Kd.Own.row {α : Type} {K : Kd α} {w : World} {B : Nat} {v : Value} {l : List α} (h : K.Own w B v l) {k : Nat} (hk : v.ownBlock = some k) : ∃ cur, w.heap[k]? = some (.cells cur K.e (0, 0)) := by
  rcases h.2 with ⟨hv, _⟩ | ⟨g, cap, cur, hv, hg, hb, r⟩
  · rw [hv] at hk
    cases hk
  · have : g = k := by rw [hv] at hk; injection hk
    subst this
    exact ⟨cur, hb⟩
/-- A file in memory. -/
structure FV where
  g : Nat
  bv : Value
  pv : Value
  m : FM
structure Fil (w : World) (x : FV) : Prop where
  at_ : w.heap[x.g]? = some (.cells #[x.bv, .int .i64 (x.m.s : Int), x.pv] 82 (0, 0))
  b : KB.Own w 0 x.bv x.m.b
  p : KN.Own w 0 x.pv x.m.ps
def FootF (x : FV) (k : Nat) : Prop := k = x.g ∨ x.bv.ownBlock = some k ∨ x.pv.ownBlock = some k
theorem Fil.touch {S : Nat → Prop} {w w' : World} {x : FV} (h : Fil w x) (t : Tch S w w') (hS : ∀ j, S j → ¬ FootF x j) : Fil w' x :=
  ⟨t.row h.at_ (fun hs => hS _ hs (.inl rfl)), h.b.touch t (fun j hj hb => hS j hj (.inr (.inl hb))), h.p.touch t (fun j hj hb => hS j hj (.inr (.inr hb)))⟩
/-- Of which type a block's cells are. -/
theorem tag_ne {w : World} {a b : Nat} {ca cb : Array Value} {ta tb : TypeId} {za zb : Nat × Nat} (ha : w.heap[a]? = some (.cells ca ta za)) (hb : w.heap[b]? = some (.cells cb tb zb)) (h : ta ≠ tb) : a ≠ b := by
  rintro rfl
  rw [ha] at hb
  injection hb with hb
  injection hb with _ hb _
  exact h hb
theorem map_ne {w : World} {a b : Nat} {ca : Array Value} {ta : TypeId} {za : Nat × Nat} {es : Array MapEntry} {c : Nat} (ha : w.heap[a]? = some (.cells ca ta za)) (hb : w.heap[b]? = some (.map es c)) : a ≠ b := by
  rintro rfl
  rw [ha] at hb
  cases hb
/-- What lies in a file's blocks. -/
theorem Fil.tags {w : World} {x : FV} (h : Fil w x) {k : Nat} (hk : FootF x k) : ∃ cur t, w.heap[k]? = some (.cells cur t (0, 0)) ∧ (t = 82 ∨ t = 5 ∨ t = 3) := by
  rcases hk with rfl | hk | hk
  · exact ⟨_, _, h.at_, .inl rfl⟩
  · obtain ⟨cur, hc⟩ := h.b.row hk
    exact ⟨cur, _, hc, .inr (.inl rfl)⟩
  · obtain ⟨cur, hc⟩ := h.p.row hk
    exact ⟨cur, _, hc, .inr (.inr rfl)⟩
structure Fls (w : World) (fl : List FV) : Prop where
  each : ∀ x ∈ fl, Fil w x
  gs : fl.Pairwise (fun x y => x.g ≠ y.g)
  bs : fl.Pairwise (fun x y => ∀ k, x.bv.ownBlock = some k → y.bv.ownBlock ≠ some k)
  ps : fl.Pairwise (fun x y => ∀ k, x.pv.ownBlock = some k → y.pv.ownBlock ≠ some k)
theorem Fls.apart {w : World} {fl : List FV} (h : Fls w fl) {i j : Nat} (hi : i < fl.length) (hj : j < fl.length) (hne : i ≠ j) : ∀ k, FootF fl[i] k → ¬ FootF fl[j] k := by
  have fi := h.each _ (List.getElem_mem hi)
  have fj := h.each _ (List.getElem_mem hj)
  have sym : ∀ {R : FV → FV → Prop}, (∀ x y, R x y → R y x) → fl.Pairwise R → R fl[i] fl[j] := by
    intro R hR hp
    rcases Nat.lt_or_gt_of_ne hne with hlt | hgt
    · exact List.pairwise_iff_getElem.1 hp i j hi hj hlt
    · exact hR _ _ (List.pairwise_iff_getElem.1 hp j i hj hi hgt)
  have e1 := sym (fun x y h => Ne.symm h) h.gs
  have e2 := sym (fun x y h k hk hk' => h k hk' hk) h.bs
  have e3 := sym (fun x y h k hk hk' => h k hk' hk) h.ps
  intro k h1 h2
  rcases h1 with rfl | h1 | h1 <;> rcases h2 with h2 | h2 | h2
  · exact e1 h2
  · obtain ⟨cur, hc⟩ := fj.b.row h2
    exact tag_ne fi.at_ hc (by decide) rfl
  · obtain ⟨cur, hc⟩ := fj.p.row h2
    exact tag_ne fi.at_ hc (by decide) rfl
  · subst h2
    obtain ⟨cur, hc⟩ := fi.b.row h1
    exact tag_ne fj.at_ hc (by decide) rfl
  · exact e2 k h1 h2
  · obtain ⟨cur, hc⟩ := fi.b.row h1
    obtain ⟨cur2, hc2⟩ := fj.p.row h2
    exact tag_ne hc hc2 (by decide) rfl
  · subst h2
    obtain ⟨cur, hc⟩ := fi.p.row h1
    exact tag_ne fj.at_ hc (by decide) rfl
  · obtain ⟨cur, hc⟩ := fi.p.row h1
    obtain ⟨cur2, hc2⟩ := fj.b.row h2
    exact tag_ne hc hc2 (by decide) rfl
  · exact e3 k h1 h2
theorem Fil.lt {w : World} {x : FV} (h : Fil w x) {k : Nat} (hk : FootF x k) : k < w.heap.size := by
  obtain ⟨cur, t, hc, _⟩ := h.tags hk
  exact row_lt hc
theorem Fls.touch {S : Nat → Prop} {w w' : World} {fl : List FV} (h : Fls w fl) (t : Tch S w w') (hS : ∀ j, S j → ∀ x ∈ fl, ¬ FootF x j) : Fls w' fl :=
  ⟨fun x hx => (h.each x hx).touch t (fun j hj => hS j hj x hx), h.gs, h.bs, h.ps⟩
/-- One file turned, in its own blocks or in new ones. -/
theorem Fls.set {S : Nat → Prop} {w w' : World} {fl : List FV} (h : Fls w fl) {i : Nat} (hi : i < fl.length) {x' : FV} (hx : Fil w' x') (t : Tch S w w') (hS : ∀ j, S j → j < w.heap.size → FootF fl[i] j) (hg : x'.g = fl[i].g)
    (hb : ∀ k, x'.bv.ownBlock = some k → fl[i].bv.ownBlock = some k ∨ w.heap.size ≤ k) (hp : ∀ k, x'.pv.ownBlock = some k → fl[i].pv.ownBlock = some k ∨ w.heap.size ≤ k) : Fls w' (fl.set i x') := by
  have old : ∀ j (hj : j < fl.length), j ≠ i → Fil w' fl[j] := fun j hj hne => by
    refine (h.each _ (List.getElem_mem hj)).touch t (fun k hk hf => ?_)
    have hlt := (h.each _ (List.getElem_mem hj)).lt hf
    exact h.apart hi hj (Ne.symm hne) k (hS k hk hlt) hf
  have blt : ∀ j (hj : j < fl.length) k, (fl[j].bv.ownBlock = some k ∨ fl[j].pv.ownBlock = some k) → k < w.heap.size := fun j hj k hk => (h.each _ (List.getElem_mem hj)).lt (.inr hk)
  refine ⟨fun x hx' => ?_, ?_, ?_, ?_⟩
  · obtain ⟨j, hj, rfl⟩ := List.getElem_of_mem hx'
    rw [List.length_set] at hj
    rw [List.getElem_set]
    split
    · exact hx
    · rename_i hne
      exact old j hj (Ne.symm hne)
  · refine List.pairwise_iff_getElem.2 fun a b ha hb' hab => ?_
    rw [List.length_set] at ha hb'
    have := List.pairwise_iff_getElem.1 h.gs a b ha hb' hab
    rw [List.getElem_set, List.getElem_set]
    by_cases ea : i = a
    · subst ea
      rw [if_pos rfl, if_neg (by omega), hg]
      exact this
    · rw [if_neg ea]
      by_cases eb : i = b
      · subst eb
        rw [if_pos rfl, hg]
        exact this
      · rw [if_neg eb]
        exact this
  · refine List.pairwise_iff_getElem.2 fun a b ha hb' hab => ?_
    rw [List.length_set] at ha hb'
    have := List.pairwise_iff_getElem.1 h.bs a b ha hb' hab
    rw [List.getElem_set, List.getElem_set]
    by_cases ea : i = a
    · subst ea
      rw [if_pos rfl, if_neg (by omega)]
      intro k hk hk'
      rcases hb k hk with hk | hk
      · exact this k hk hk'
      · have := blt b hb' k (.inl hk')
        omega
    · rw [if_neg ea]
      by_cases eb : i = b
      · subst eb
        rw [if_pos rfl]
        intro k hk hk'
        rcases hb k hk' with hk' | hk'
        · exact this k hk hk'
        · have := blt a ha k (.inl hk)
          omega
      · rw [if_neg eb]
        exact this
  · refine List.pairwise_iff_getElem.2 fun a b ha hb' hab => ?_
    rw [List.length_set] at ha hb'
    have := List.pairwise_iff_getElem.1 h.ps a b ha hb' hab
    rw [List.getElem_set, List.getElem_set]
    by_cases ea : i = a
    · subst ea
      rw [if_pos rfl, if_neg (by omega)]
      intro k hk hk'
      rcases hp k hk with hk | hk
      · exact this k hk hk'
      · have := blt b hb' k (.inr hk')
        omega
    · rw [if_neg ea]
      by_cases eb : i = b
      · subst eb
        rw [if_pos rfl]
        intro k hk hk'
        rcases hp k hk' with hk' | hk'
        · exact this k hk hk'
        · have := blt a ha k (.inr hk)
          omega
      · rw [if_neg eb]
        exact this
theorem Fls.snoc {w : World} {fl : List FV} (h : Fls w fl) {x : FV} (hx : Fil w x) (hg : ∀ y ∈ fl, y.g ≠ x.g) (hb : x.bv.ownBlock = none) (hp : x.pv.ownBlock = none) : Fls w (fl ++ [x]) := by
  refine ⟨fun y hy => ?_, ?_, ?_, ?_⟩
  · rcases List.mem_append.1 hy with hy | hy
    · exact h.each y hy
    · rw [List.mem_singleton.1 hy]; exact hx
  · refine List.pairwise_append.2 ⟨h.gs, List.pairwise_singleton _ _, fun y hy z hz => ?_⟩
    rw [List.mem_singleton.1 hz]
    exact hg y hy
  · refine List.pairwise_append.2 ⟨h.bs, List.pairwise_singleton _ _, fun y hy z hz k hk => ?_⟩
    rw [List.mem_singleton.1 hz, hb]
    intro hh; cases hh
  · refine List.pairwise_append.2 ⟨h.ps, List.pairwise_singleton _ _, fun y hy z hz k hk => ?_⟩
    rw [List.mem_singleton.1 hz, hp]
    intro hh; cases hh
/-- What holds of a disk at any time, c operations on. -/
structure WfM (M : DM) (c : Nat) : Prop where
  nn : (nkeys M.names).Nodup
  sn : (nkeys M.sure).Nodup
  ni : ∀ e ∈ M.names, e.2 < M.fs.length
  si : ∀ e ∈ M.sure, e.2 < M.fs.length
  ci : ∀ x ∈ M.ch, ∀ i ∈ efi x, i < M.fs.length
  fw : ∀ f ∈ M.fs, f.s + f.ps.sum = f.b.length ∧ f.b.length ≤ 1048576 ∧ ∀ n ∈ f.ps, 0 < n
  ln : M.names.length ≤ c
  lc : M.sure.length + M.ch.length ≤ c
  lf : M.fs.length ≤ c
  hc : c ≤ 1048576
  qu : M.quota ≤ 1048576
  fu : -1 ≤ M.fuse ∧ M.fuse ≤ 9223372036854775807
  fa : 0 ≤ M.fault ∧ M.fault ≤ 9223372036854775807
  nz : ∀ e ∈ M.names, e.1.size ≤ 64
  cz : ∀ x ∈ M.ch, match x with | .create k _ => k.size ≤ 64 | .rename a b => a.size ≤ 64 ∧ b.size ≤ 64 | .remove k => k.size ≤ 64
  sz : ∀ e ∈ M.sure, e.1.size ≤ 64
end Go.Icz
namespace Go.Proofs.Ytjpneohachkheaa
open Go.RowKit Go.Icz Go.Maps Go.ChangeMaps Go.MapKept
theorem keyS {k : ByteArray} (hk : k.size ≤ maxLen) : keyOf Try.prog 9 (.string k) = some (kl k) := by
  simp [kl, keyOf, mapKey, Try.underlying9, hk]
/-- A map of files by their names. -/
def Mp (w : World) (b : Nat) (N : NM) (gs : List Nat) : Prop := ∃ D, w.ownsMap Try.prog 9 rPt b N.length D ∧ Agr D N gs
theorem Mp.touch {S : Nat → Prop} {w w' : World} {b : Nat} {N : NM} {gs : List Nat} (h : Mp w b N gs) (t : Tch S w w') (hS : ¬ S b) : Mp w' b N gs := by
  obtain ⟨D, h1, h2⟩ := h
  exact ⟨D, ownsMap_touch h1 t hS, h2⟩
theorem Mp.row {w : World} {b : Nat} {N : NM} {gs : List Nat} (h : Mp w b N gs) : ∃ es c, w.heap[b]? = some (.map es c) := by
  obtain ⟨D, ⟨es, clock, h1, _⟩, _⟩ := h
  exact ⟨es, clock, h1⟩
theorem Mp.lt {w : World} {b : Nat} {N : NM} {gs : List Nat} (h : Mp w b N gs) : b < w.heap.size := by
  obtain ⟨D, h1, _⟩ := h
  exact h1.lt
def ptO (gs : List Nat) : Option Nat → Value
  | none => .pointer none
  | some i => .pointer (some ⟨gs.getD i 0, 0, none⟩)
theorem Mp.look2 {w : World} {b : Nat} {N : NM} {gs : List Nat} (h : Mp w b N gs) (k : ByteArray) (hk : k.size ≤ maxLen) : (Instr.lookup 66 (.map (some b)) (.string k) true).run Try.prog w = .ok (.tuple #[ptO gs (nlook N k), .bool (nlook N k).isSome]) w := by
  obtain ⟨D, hown, ha⟩ := h
  obtain ⟨u, ps, hrun, hu⟩ := hown.look_ok (string_keyed Try.underlying9) Try.underlying66 (Try.zeroValue74 w) (zd := .nil) (zp := []) rfl (keyS hk)
  rw [ha.has] at hrun
  rw [hrun]
  cases hl : nlook N k with
  | none =>
    rw [Maps.atKey_of_not_has (by rw [ha.has, hl]; rfl)] at hu
    rw [rPt_none hu]
    rfl
  | some i =>
    rw [ha.at_ k i hl] at hu
    rw [rPt_some hu]
    rfl
theorem Mp.look1 {w : World} {b : Nat} {N : NM} {gs : List Nat} (h : Mp w b N gs) (k : ByteArray) (hk : k.size ≤ maxLen) : (Instr.lookup 66 (.map (some b)) (.string k) false).run Try.prog w = .ok (ptO gs (nlook N k)) w := by
  obtain ⟨D, hown, ha⟩ := h
  obtain ⟨u, ps, hrun, hu⟩ := hown.lookup (string_keyed Try.underlying9) Try.underlying66 (Try.zeroValue74 w) (zd := .nil) (zp := []) rfl (keyS hk)
  rw [hrun]
  cases hl : nlook N k with
  | none =>
    rw [Maps.atKey_of_not_has (by rw [ha.has, hl]; rfl)] at hu
    rw [rPt_none hu]
    rfl
  | some i =>
    rw [ha.at_ k i hl] at hu
    rw [rPt_some hu]
    rfl
theorem Mp.len {w : World} {b : Nat} {N : NM} {gs : List Nat} (h : Mp w b N gs) (ty : TypeId) : (Builtin.len_ #[66] ty #[.map (some b)]).run Try.prog w = .ok (.int .i64 (N.length : Nat)) w := by
  obtain ⟨D, hown, ha⟩ := h
  rw [hown.len Try.underlying66 ty, ha.size]
theorem Mp.put {w : World} {b : Nat} {N : NM} {gs : List Nat} (h : Mp w b N gs) (hn : (nkeys N).Nodup) (hl : N.length < maxLen) (k : ByteArray) (hk : k.size ≤ maxLen) {i g : Nat} (hg : gs.getD i 0 = g) :
    ∃ w', (Instr.mapUpdate 66 (.map (some b)) (.string k) (.pointer (some ⟨g, 0, none⟩))).run Try.prog w = .ok () w' ∧ Mp w' b (nput N k i) gs ∧ Tch (· = b) w w' := by
  obtain ⟨D, hown, ha⟩ := h
  obtain ⟨w', hrun, ho, ht⟩ := hown.store (string_keyed Try.underlying9) Try.underlying66 hl (key := .string k) (val := .pointer (some ⟨g, 0, none⟩)) (keyS hk) (d := .lit (.int .i64 (g : Nat))) (ps := []) rfl
  have hA := ha.put (hown.tidy (string_keyed Try.underlying9)) hn k hg
  exact ⟨w', hrun, ⟨_, ownsMap_le ho (by rw [hA.size]; exact Nat.le_refl _), hA⟩, Tch.turned ht⟩
theorem Mp.del {w : World} {b : Nat} {N : NM} {gs : List Nat} (h : Mp w b N gs) (hn : (nkeys N).Nodup) (k : ByteArray) (hk : k.size ≤ maxLen) (ty : TypeId) :
    ∃ w', (Builtin.delete_ #[66, 9] ty #[.map (some b), .string k]).run Try.prog w = .ok (.tuple #[]) w' ∧ Mp w' b (ndel k N) gs ∧ Tch (· = b) w w' := by
  obtain ⟨D, hown, ha⟩ := h
  obtain ⟨w', hrun, ho, ht⟩ := hown.drop (string_keyed Try.underlying9) Try.underlying66 (keyS hk) ty
  have hA := ha.del (hown.tidy (string_keyed Try.underlying9)) hn k
  exact ⟨w', hrun, ⟨_, ownsMap_le ho (by rw [hA.size]; exact Nat.le_refl _), hA⟩, Tch.turned ht⟩
theorem Mp.made (w : World) (gs : List Nat) : Mp (w.alloc (.map #[] 0)) w.heap.size [] gs := ⟨.map [], World.ownsMap_made .., Agr.nil gs⟩
theorem Mp.more {w : World} {b : Nat} {N : NM} {gs : List Nat} (h : Mp w b N gs) (hi : ∀ e ∈ N, e.2 < gs.length) (g : Nat) : Mp w b N (gs ++ [g]) := by
  obtain ⟨D, h1, h2⟩ := h
  exact ⟨D, h1, h2.more hi g⟩
/-- Where a disk lies. -/
def Foot (q p n s : Nat) (cv : Value) (fl : List FV) (k : Nat) : Prop := k = q ∨ k = p ∨ k = n ∨ k = s ∨ cv.ownBlock = some k ∨ ∃ x ∈ fl, FootF x k
def plR (M : DM) (n s : Nat) (cv : Value) : Array Value := #[.int .i64 M.fault, .bool M.done, .bool M.off, .int .i64 M.fuse, .int .i64 (M.quota : Int), .map (some n), .map (some s), cv]
def bl (fl : List FV) : List Nat := fl.map (·.g)
/-- A plate, but for its switches. -/
structure Pl (w : World) (T : Nat → Prop) (c q p n s : Nat) (cv : Value) (fl : List FV) (M : DM) : Prop where
  q_ : w.heap[q]? = some (.cells #[.pointer (some ⟨p, 0, none⟩)] 44 (0, 0))
  p_ : w.heap[p]? = some (.cells (plR M n s cv) 69 (0, 0))
  fls : Fls w fl
  fm : fl.map (·.m) = M.fs
  nm : Mp w n M.names (bl fl)
  sm : Mp w s M.sure (bl fl)
  ns : n ≠ s
  ch : KE.Own w 0 cv (M.ch.map (evOf (bl fl)))
  ft : ∀ k, Foot q p n s cv fl k → T k
  wf : WfM M c
theorem Pl.lt {w : World} {T : Nat → Prop} {c q p n s : Nat} {cv : Value} {fl : List FV} {M : DM} (h : Pl w T c q p n s cv fl M) : ∀ k, Foot q p n s cv fl k → k < w.heap.size := by
  rintro k (rfl | rfl | rfl | rfl | hk | ⟨x, hx, hk⟩)
  · exact row_lt h.q_
  · exact row_lt h.p_
  · exact h.nm.lt
  · exact h.sm.lt
  · exact (h.ch.lt k hk).2
  · exact (h.fls.each x hx).lt hk
theorem Pl.touch {S : Nat → Prop} {w w' : World} {T : Nat → Prop} {c q p n s : Nat} {cv : Value} {fl : List FV} {M : DM} (h : Pl w T c q p n s cv fl M) (t : Tch S w w') (hS : ∀ j, S j → ¬ Foot q p n s cv fl j) : Pl w' T c q p n s cv fl M :=
  ⟨t.row h.q_ (fun hs => hS _ hs (.inl rfl)), t.row h.p_ (fun hs => hS _ hs (.inr (.inl rfl))), h.fls.touch t (fun j hj x hx hf => hS j hj (.inr (.inr (.inr (.inr (.inr ⟨x, hx, hf⟩)))))), h.fm,
   h.nm.touch t (fun hs => hS _ hs (.inr (.inr (.inl rfl)))), h.sm.touch t (fun hs => hS _ hs (.inr (.inr (.inr (.inl rfl))))), h.ns,
   h.ch.touch t (fun j hj hb => hS j hj (.inr (.inr (.inr (.inr (.inl hb)))))), h.ft, h.wf⟩
theorem Pl.below {w w' : World} {T : Nat → Prop} {c q p n s : Nat} {cv : Value} {fl : List FV} {M : DM} (h : Pl w T c q p n s cv fl M) (k : Below w.heap.size w w') : Pl w' T c q p n s cv fl M :=
  h.touch (S := fun _ => False) (Tch.of_below k) (fun _ h => h.elim)
theorem Pl.len {w : World} {T : Nat → Prop} {c q p n s : Nat} {cv : Value} {fl : List FV} {M : DM} (h : Pl w T c q p n s cv fl M) : fl.length = M.fs.length := by rw [← h.fm, List.length_map]
theorem Pl.at_ {w : World} {T : Nat → Prop} {c q p n s : Nat} {cv : Value} {fl : List FV} {M : DM} (h : Pl w T c q p n s cv fl M) {i : Nat} (hi : i < M.fs.length) : ∃ hi' : i < fl.length, (bl fl).getD i 0 = fl[i].g ∧ fl[i].m = fileAt M.fs i ∧ Fil w fl[i] := by
  have hi' : i < fl.length := by rw [h.len]; exact hi
  refine ⟨hi', ?_, ?_, h.fls.each _ (List.getElem_mem hi')⟩
  · unfold bl
    rw [List.getD_eq_getElem?_getD, List.getElem?_map, List.getElem?_eq_getElem hi']
    rfl
  · unfold fileAt
    rw [← h.fm, List.getD_eq_getElem?_getD, List.getElem?_map, List.getElem?_eq_getElem hi']
    rfl
/-- The tags of a plate's blocks but its own. -/
theorem Pl.pne {w : World} {T : Nat → Prop} {c q p n s : Nat} {cv : Value} {fl : List FV} {M : DM} (h : Pl w T c q p n s cv fl M) : p ≠ q ∧ p ≠ n ∧ p ≠ s ∧ (cv.ownBlock ≠ some p) ∧ ∀ x ∈ fl, ¬ FootF x p := by
  obtain ⟨es, cl, hn⟩ := h.nm.row
  obtain ⟨es', cl', hs⟩ := h.sm.row
  refine ⟨tag_ne h.p_ h.q_ (by decide), map_ne h.p_ hn, map_ne h.p_ hs, fun hc => ?_, fun x hx hf => ?_⟩
  · obtain ⟨cur, hc⟩ := h.ch.row hc
    exact tag_ne h.p_ hc (by decide) rfl
  · obtain ⟨cur, t, hc, ht⟩ := (h.fls.each x hx).tags hf
    refine tag_ne h.p_ hc ?_ rfl
    rcases ht with rfl | rfl | rfl <;> decide
end Go.Proofs.Ytjpneohachkheaa
