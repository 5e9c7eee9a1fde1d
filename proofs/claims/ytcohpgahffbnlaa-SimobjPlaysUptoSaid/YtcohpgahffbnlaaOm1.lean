/-
  A store in memory: its room, its objects, its changes; what of it stays when other memory turns. Conditions: those that each theorem names.
-/
import Derived.Test.YtcohpgahffbnlaaGRo
import Derived.Test.YtcohpgahffbnlaaOm0
import Derived.Test.YtcohpgahffbnlaaRows
import Derived.Maps.OwnSet
import Derived.Maps.OwnOps
import Derived.Maps.Views
import Derived.Maps.Keyed
import Derived.Lib.SliceRun
namespace Go.Icz
open Go.RowKit Go.Maps Go.ChangeMaps Go.MapKept
theorem ownsMap_touch {H : Type} {P : Program} {k : TypeId} {R : Value → Option (DataW H × List MemPlace)} {S : Nat → Prop} {w w' : World} {b n : Nat} {D : DataW H} (h : w.ownsMap P k R b n D) (t : Tch S w w') (hS : ¬ S b) : w'.ownsMap P k R b n D := by
  obtain ⟨es, clock, h1, h2, h3, h4⟩ := h
  exact ⟨es, clock, (t.block b (Array.getElem?_eq_some_iff.1 h1).1 hS).trans h1, h2, h3, h4⟩
theorem ownsMap_le {H : Type} {P : Program} {k : TypeId} {R : Value → Option (DataW H × List MemPlace)} {w : World} {b n m : Nat} {D : DataW H} (h : w.ownsMap P k R b n D) (hm : Maps.size D ≤ m) : w.ownsMap P k R b m D := by
  obtain ⟨es, clock, h1, h2, h3, rfl⟩ := h
  refine ⟨es, clock, h1, h2, ?_, rfl⟩
  rw [Maps.size_eq, length_read] at hm
  exact hm
theorem Tch.turned {w w' : World} {b : Nat} (h : w.mapTurned w' b) : Tch (· = b) w w' := by
  have g := h.grown
  exact ⟨g.os, g.tape, g.output, g.size, fun k hk hn => g.block k hk (fun e => by injection e with e; exact hn e)⟩
def kl (k : ByteArray) : Lit := .string k.data.toList
theorem kl_inj {a b : ByteArray} (h : kl a = kl b) : a = b := by
  unfold kl at h
  injection h with h
  exact ByteArray.ext (Array.ext' h)
theorem kl_ne {a b : ByteArray} (h : a ≠ b) : kl a ≠ kl b := fun e => h (kl_inj e)
theorem kl_key (a : ByteArray) : WideAt.IsKeyLit (kl a) := trivial
/-- A datum has just these keys. -/
structure AgrK {H β : Type} (D : DataW H) (N : AL β) : Prop where
  has : ∀ k, Maps.has D (kl k) = (alook N k).isSome
  size : Maps.size D = N.length
theorem AgrK.del {H β : Type} {D : DataW H} {N : AL β} (h : AgrK D N) (hd : Tidy D) (hk : (akeys N).Nodup) (k : ByteArray) : AgrK (D.del (kl k)) (adel k N) := by
  refine ⟨fun j => ?_, ?_⟩
  · by_cases e : j = k
    · subst e
      rw [Maps.has_del_same, al_del_same]
      rfl
    · rw [Maps.has_del_other (kl_ne e), h.has, al_del_other e]
  · have h1 := Maps.size_del hd (k := kl k)
    have h2 := len_adel (k := k) hk
    rw [h.has, h.size] at h1
    omega
theorem AgrK.put {H β : Type} {D : DataW H} {N : AL β} (h : AgrK D N) (hd : Tidy D) (hk : (akeys N).Nodup) (k : ByteArray) (x : β) (d : DataW H) : AgrK (D.put (kl k) d) (aput N k x) := by
  refine ⟨fun j => ?_, ?_⟩
  · by_cases e : j = k
    · subst e
      rw [Maps.has_put_same hd.isMap (kl_key _), al_put_same]
      rfl
    · rw [Maps.has_put_other (kl_ne e), h.has, al_put_other e]
  · rw [Maps.size_put hd, len_aput hk, h.has, h.size]
theorem AgrK.nil {H β : Type} : AgrK (.map [] : DataW H) ([] : AL β) := ⟨fun _ => rfl, rfl⟩
/-- An element that is a slice: read as where it lies. -/
def rSl : Value → Option (DataW Unit × List MemPlace)
  | .slice none 0 0 => some (.nil, [])
  | .slice (some ⟨b, o, none⟩) n c => some (.agg [.lit (.int .i64 b), .lit (.int .i64 o), .lit (.int .i64 n), .lit (.int .i64 c)], [])
  | _ => none
theorem rSl_inv {v : Value} {d : DataW Unit} {p : List MemPlace} (h : rSl v = some (d, p)) :
    (v = .slice none 0 0 ∧ d = .nil) ∨ ∃ b o n c, v = .slice (some ⟨b, o, none⟩) n c ∧ d = .agg [.lit (.int .i64 b), .lit (.int .i64 o), .lit (.int .i64 n), .lit (.int .i64 c)] := by
  unfold rSl at h
  split at h
  · simp only [Option.some.injEq, Prod.mk.injEq] at h; exact .inl ⟨rfl, h.1.symm⟩
  · simp only [Option.some.injEq, Prod.mk.injEq] at h; exact .inr ⟨_, _, _, _, rfl, h.1.symm⟩
  · cases h
theorem rSl_one {u v : Value} {d : DataW Unit} {p q : List MemPlace} (h : rSl u = some (d, p)) (h2 : rSl v = some (d, q)) : u = v := by
  rcases rSl_inv h with ⟨rfl, rfl⟩ | ⟨b, o, n, c, rfl, rfl⟩
  · rcases rSl_inv h2 with ⟨rfl, _⟩ | ⟨b2, o2, n2, c2, rfl, e⟩
    · rfl
    · cases e
  · rcases rSl_inv h2 with ⟨rfl, e⟩ | ⟨b2, o2, n2, c2, rfl, e⟩
    · cases e
    · simp only [DataW.agg.injEq, List.cons.injEq, DataW.lit.injEq, Lit.int.injEq, true_and, and_true] at e
      obtain ⟨e1, e2, e3, e4⟩ := e
      have e1 : b = b2 := by omega
      have e2 : o = o2 := by omega
      have e3 : n = n2 := by omega
      have e4 : c = c2 := by omega
      subst e1 e2 e3 e4
      rfl
def KB : Kd Nat where
  e := 5
  z := 1
  enc := fun x => [.int .u8 (x : Int)]
  len := fun _ => rfl
  pos := by decide
  one := by
    intro x u hu
    simp only [List.mem_cons, List.not_mem_nil, or_false] at hu
    subst hu
    rfl
def KS : Kd ByteArray where
  e := 9
  z := 1
  enc := fun x => [.string x]
  len := fun _ => rfl
  pos := by decide
  one := by
    intro x u hu
    simp only [List.mem_cons, List.not_mem_nil, or_false] at hu
    subst hu
    rfl
def KC : Kd Chg where
  e := 92
  z := 3
  enc := fun x => [.int .i64 (x.t : Int), .string x.k, .bool x.c]
  len := fun _ => rfl
  pos := by decide
  one := by
    intro x u hu
    simp only [List.mem_cons, List.not_mem_nil, or_false] at hu
    rcases hu with rfl | rfl | rfl <;> rfl
theorem Kd.Own.row {α : Type} {K : Kd α} {w : World} {B : Nat} {v : Value} {l : List α} (h : K.Own w B v l) {k : Nat} (hk : v.ownBlock = some k) : ∃ cur, w.heap[k]? = some (.cells cur K.e (0, 0)) := by
  rcases h.2 with ⟨hv, _⟩ | ⟨g, cap, cur, hv, hg, hb, r⟩
  · rw [hv] at hk
    cases hk
  · have : g = k := by rw [hv] at hk; injection hk
    subst this
    exact ⟨cur, hb⟩
theorem Kd.Own.rsl {α : Type} {K : Kd α} {w : World} {B : Nat} {v : Value} {l : List α} (h : K.Own w B v l) : ∃ d, rSl v = some (d, []) := by
  rcases h.2 with ⟨hv, _⟩ | ⟨g, cap, cur, hv, _⟩
  · exact ⟨_, by rw [hv]; rfl⟩
  · exact ⟨_, by rw [hv]; rfl⟩
/-- Of which type a block's cells are. -/
theorem tag_ne {w : World} {a b : Nat} {ca cb : Array Value} {ta tb : TypeId} {za zb : Nat × Nat} (ha : w.heap[a]? = some (.cells ca ta za)) (hb : w.heap[b]? = some (.cells cb tb zb)) (h : ta ≠ tb) : a ≠ b := by
  rintro rfl
  rw [ha] at hb
  injection hb with hb
  injection hb with _ hb _
  exact h hb
theorem map_ne {w : World} {a b : Nat} {ca : Array Value} {ta : TypeId} {za : Nat × Nat} {es : Array MapEntry} {c : Nat} (ha : w.heap[a]? = some (.cells ca ta za)) (hb : w.heap[b]? = some (.map es c)) : a ≠ b := by
  rintro rfl
  rw [ha] at hb
  cases hb
end Go.Icz
namespace Go.Proofs.Ytcohpgahffbnlaa
open Go.RowKit Go.Icz Go.Maps Go.ChangeMaps Go.MapKept
theorem keyS {k : ByteArray} (hk : k.size ≤ maxLen) : keyOf Try.prog 9 (.string k) = some (kl k) := by
  simp [kl, keyOf, mapKey, Try.underlying9, hk]
/-- An object's bytes lie where the datum says. -/
def Byt (w : World) (T : Nat → Prop) (d : DataW Unit) (l : List Nat) : Prop := ∃ v, rSl v = some (d, []) ∧ KB.Own w 0 v l ∧ ∀ g, v.ownBlock = some g → T g
theorem Byt.touch {S : Nat → Prop} {w w' : World} {T : Nat → Prop} {d : DataW Unit} {l : List Nat} (h : Byt w T d l) (t : Tch S w w') (hS : ∀ j, S j → T j → ∀ cs z, w.heap[j]? ≠ some (.cells cs 5 z)) : Byt w' T d l := by
  obtain ⟨v, h1, h2, h3⟩ := h
  refine ⟨v, h1, h2.touch t (fun j hj hb => ?_), h3⟩
  obtain ⟨cur, hc⟩ := h2.row hb
  exact hS j hj (h3 j hb) _ _ hc
/-- Objects by keys. -/
def Ob (w : World) (T : Nat → Prop) (b : Nat) (L : OM) : Prop :=
  ∃ D, w.ownsMap Try.prog 9 rSl b L.length D ∧ AgrK D L ∧ ∀ k l, alook L k = some l → Byt w T (D.atKey (kl k) .nil) l
theorem Ob.touch {S : Nat → Prop} {w w' : World} {T : Nat → Prop} {b : Nat} {L : OM} (h : Ob w T b L) (t : Tch S w w') (hb : ¬ S b) (hS : ∀ j, S j → T j → ∀ cs z, w.heap[j]? ≠ some (.cells cs 5 z)) : Ob w' T b L := by
  obtain ⟨D, h1, h2, h3⟩ := h
  exact ⟨D, ownsMap_touch h1 t hb, h2, fun k l hk => (h3 k l hk).touch t hS⟩
theorem Ob.row {w : World} {T : Nat → Prop} {b : Nat} {L : OM} (h : Ob w T b L) : ∃ es c, w.heap[b]? = some (.map es c) := by
  obtain ⟨D, ⟨es, clock, h1, _⟩, _⟩ := h
  exact ⟨es, clock, h1⟩
theorem Ob.lt {w : World} {T : Nat → Prop} {b : Nat} {L : OM} (h : Ob w T b L) : b < w.heap.size := by
  obtain ⟨D, h1, _⟩ := h
  exact h1.lt
theorem Ob.len {w : World} {T : Nat → Prop} {b : Nat} {L : OM} (h : Ob w T b L) (ty : TypeId) : (Builtin.len_ #[37] ty #[.map (some b)]).run Try.prog w = .ok (.int .i64 (L.length : Nat)) w := by
  obtain ⟨D, hown, ha, _⟩ := h
  rw [hown.len Try.underlying37 ty, ha.size]
theorem Ob.look {w : World} {T : Nat → Prop} {b : Nat} {L : OM} (h : Ob w T b L) (k : ByteArray) (hk : k.size ≤ maxLen) :
    ∃ v, (Instr.lookup 37 (.map (some b)) (.string k) true).run Try.prog w = .ok (.tuple #[v, .bool (alook L k).isSome]) w ∧ match alook L k with
      | none => v = .slice none 0 0
      | some l => KB.Own w 0 v l ∧ ∀ g, v.ownBlock = some g → T g := by
  obtain ⟨D, hown, ha, hby⟩ := h
  obtain ⟨u, ps, hrun, hu⟩ := hown.look_ok (string_keyed Try.underlying9) Try.underlying37 (Try.zeroValue32 w) (zd := .nil) (zp := []) rfl (keyS hk)
  rw [ha.has] at hrun
  refine ⟨u, hrun, ?_⟩
  cases hl : alook L k with
  | none =>
    rw [Maps.atKey_of_not_has (by rw [ha.has, hl]; rfl)] at hu
    exact rSl_one (p := ps) (q := []) hu rfl
  | some l =>
    obtain ⟨v, h1, h2, h3⟩ := hby k l hl
    obtain rfl := rSl_one hu h1
    exact ⟨h2, h3⟩
theorem Ob.put {w : World} {T : Nat → Prop} {b : Nat} {L : OM} (h : Ob w T b L) (hn : (akeys L).Nodup) (hl : L.length < maxLen) (k : ByteArray) (hk : k.size ≤ maxLen) {v : Value} {l : List Nat} (hv : KB.Own w 0 v l) (hT : ∀ g, v.ownBlock = some g → T g) :
    ∃ w', (Instr.mapUpdate 37 (.map (some b)) (.string k) v).run Try.prog w = .ok () w' ∧ Ob w' T b (aput L k l) ∧ Tch (· = b) w w' := by
  obtain ⟨es, clk, hrow⟩ := h.row
  obtain ⟨D, hown, ha, hby⟩ := h
  obtain ⟨d, hd⟩ := hv.rsl
  obtain ⟨w', hrun, ho, ht⟩ := hown.store (string_keyed Try.underlying9) Try.underlying37 hl (key := .string k) (val := v) (keyS hk) (d := d) (ps := []) hd
  have td := hown.tidy (string_keyed Try.underlying9)
  have hA := ha.put td hn k l d
  have t := Tch.turned ht
  have hS : ∀ j, j = b → T j → ∀ cs z, w.heap[j]? ≠ some (.cells cs 5 z) := fun j hj _ cs z e => by
    subst hj
    rw [hrow] at e
    cases e
  refine ⟨w', hrun, ⟨_, ownsMap_le ho (by rw [hA.size]; exact Nat.le_refl _), hA, fun j m hj => ?_⟩, t⟩
  by_cases e : j = k
  · subst e
    rw [al_put_same] at hj
    injection hj with hj
    subst hj
    rw [Maps.atKey_put_same td.isMap (kl_key _)]
    exact (show Byt w T d _ from ⟨v, hd, hv, hT⟩).touch t hS
  · rw [al_put_other e] at hj
    rw [Maps.atKey_put_other (kl_ne e)]
    exact (hby j m hj).touch t hS
theorem Ob.del {w : World} {T : Nat → Prop} {b : Nat} {L : OM} (h : Ob w T b L) (hn : (akeys L).Nodup) (k : ByteArray) (hk : k.size ≤ maxLen) (ty : TypeId) :
    ∃ w', (Builtin.delete_ #[37, 9] ty #[.map (some b), .string k]).run Try.prog w = .ok (.tuple #[]) w' ∧ Ob w' T b (adel k L) ∧ Tch (· = b) w w' := by
  obtain ⟨es, clk, hrow⟩ := h.row
  obtain ⟨D, hown, ha, hby⟩ := h
  obtain ⟨w', hrun, ho, ht⟩ := hown.drop (string_keyed Try.underlying9) Try.underlying37 (keyS hk) ty
  have td := hown.tidy (string_keyed Try.underlying9)
  have hA := ha.del td hn k
  have t := Tch.turned ht
  have hS : ∀ j, j = b → T j → ∀ cs z, w.heap[j]? ≠ some (.cells cs 5 z) := fun j hj _ cs z e => by
    subst hj
    rw [hrow] at e
    cases e
  refine ⟨w', hrun, ⟨_, ownsMap_le ho (by rw [hA.size]; exact Nat.le_refl _), hA, fun j m hj => ?_⟩, t⟩
  by_cases e : j = k
  · subst e
    rw [al_del_same] at hj
    cases hj
  · rw [al_del_other e] at hj
    rw [Maps.atKey_del_other (kl_ne e)]
    exact (hby j m hj).touch t hS
theorem Ob.made (w : World) (T : Nat → Prop) : Ob (w.alloc (.map #[] 0)) T w.heap.size [] := ⟨.map [], World.ownsMap_made .., AgrK.nil, fun _ _ h => (by cases h)⟩
def roR (M : SM) (bO : Nat) (cv : Value) : Array Value := #[.map (some bO), cv, .int .i64 (M.now : Int), .int .i64 (M.lag : Int), .int .i64 (M.most : Int), .int .i64 (M.calls : Int), .int .i64 M.left, .bool M.done]
/-- A room: what is kept of the changes is X. -/
structure Ro (w : World) (T : Nat → Prop) (q p bO : Nat) (cv : Value) (X : List Chg) (M : SM) : Prop where
  q_ : w.heap[q]? = some (.cells #[.pointer (some ⟨p, 0, none⟩)] 44 (0, 0))
  p_ : w.heap[p]? = some (.cells (roR M bO cv) 42 (0, 0))
  ob : Ob w T bO M.L
  ch : KC.Own w 0 cv X
  tq : T q
  tp : T p
  tb : T bO
  tc : ∀ g, cv.ownBlock = some g → T g
def FootS (q p bO : Nat) (cv : Value) (k : Nat) : Prop := k = q ∨ k = p ∨ k = bO ∨ cv.ownBlock = some k
theorem Ro.touch {S : Nat → Prop} {w w' : World} {T : Nat → Prop} {q p bO : Nat} {cv : Value} {X : List Chg} {M : SM} (h : Ro w T q p bO cv X M) (t : Tch S w w') (hS : ∀ j, S j → ¬ FootS q p bO cv j) (hB : ∀ j, S j → T j → ∀ cs z, w.heap[j]? ≠ some (.cells cs 5 z)) : Ro w' T q p bO cv X M :=
  ⟨t.row h.q_ (fun hs => hS _ hs (.inl rfl)), t.row h.p_ (fun hs => hS _ hs (.inr (.inl rfl))), h.ob.touch t (fun hs => hS _ hs (.inr (.inr (.inl rfl)))) hB, h.ch.touch t (fun j hj hb => hS j hj (.inr (.inr (.inr hb)))), h.tq, h.tp, h.tb, h.tc⟩
theorem Ro.far {S : Nat → Prop} {w w' : World} {T : Nat → Prop} {q p bO : Nat} {cv : Value} {X : List Chg} {M : SM} (h : Ro w T q p bO cv X M) (t : Tch S w w') (hS : ∀ j, S j → ¬ T j) : Ro w' T q p bO cv X M :=
  h.touch t (fun j hj hf => hS j hj (by rcases hf with rfl | rfl | rfl | hf; exact h.tq; exact h.tp; exact h.tb; exact h.tc _ hf)) (fun j hj ht => absurd ht (hS j hj))
theorem Ro.below {w w' : World} {T : Nat → Prop} {q p bO : Nat} {cv : Value} {X : List Chg} {M : SM} (h : Ro w T q p bO cv X M) (k : Below w.heap.size w w') : Ro w' T q p bO cv X M :=
  h.touch (S := fun _ => False) (Tch.of_below k) (fun _ h => h.elim) (fun _ h => h.elim)
theorem Ro.lt {w : World} {T : Nat → Prop} {q p bO : Nat} {cv : Value} {X : List Chg} {M : SM} (h : Ro w T q p bO cv X M) : ∀ k, FootS q p bO cv k → k < w.heap.size := by
  rintro k (rfl | rfl | rfl | hk)
  · exact row_lt h.q_
  · exact row_lt h.p_
  · exact h.ob.lt
  · exact (h.ch.lt k hk).2
/-- The room's own block is no other. -/
theorem Ro.pne {w : World} {T : Nat → Prop} {q p bO : Nat} {cv : Value} {X : List Chg} {M : SM} (h : Ro w T q p bO cv X M) : p ≠ q ∧ p ≠ bO ∧ cv.ownBlock ≠ some p ∧ ∀ cs z, w.heap[p]? ≠ some (.cells cs 5 z) := by
  obtain ⟨es, cl, hn⟩ := h.ob.row
  refine ⟨tag_ne h.p_ h.q_ (by decide), map_ne h.p_ hn, fun hc => ?_, fun cs z e => tag_ne h.p_ e (by decide) rfl⟩
  obtain ⟨cur, hc⟩ := h.ch.row hc
  exact tag_ne h.p_ hc (by decide) rfl
/-- The room's own block turned: a new row. -/
theorem Ro.setp {w w' : World} {T : Nat → Prop} {q p bO : Nat} {cv cv' : Value} {X X' : List Chg} {M M' : SM} (h : Ro w T q p bO cv X M) (t : Tch (· = p) w w') (hp : w'.heap[p]? = some (.cells (roR M' bO cv') 42 (0, 0))) (hL : M'.L = M.L)
    (hc : KC.Own w' 0 cv' X') (hT : ∀ g, cv'.ownBlock = some g → T g) : Ro w' T q p bO cv' X' M' := by
  obtain ⟨h1, h2, h3, h4⟩ := h.pne
  refine ⟨t.row h.q_ (fun e => h1 e.symm), hp, ?_, hc, h.tq, h.tp, h.tb, hT⟩
  rw [hL]
  exact h.ob.touch t (fun e => h2 e.symm) (fun j hj _ => by subst hj; exact h4)
/-- The same changes. -/
theorem Ro.setM {w w' : World} {T : Nat → Prop} {q p bO : Nat} {cv : Value} {X : List Chg} {M M' : SM} (h : Ro w T q p bO cv X M) (t : Tch (· = p) w w') (hp : w'.heap[p]? = some (.cells (roR M' bO cv) 42 (0, 0))) (hL : M'.L = M.L) : Ro w' T q p bO cv X M' :=
  h.setp t hp hL (h.ch.touch t (fun j hj hb => by subst hj; exact h.pne.2.2.1 hb)) h.tc
/-- A store and all that holds of it. -/
def Sto (w : World) (T : Nat → Prop) (c q p : Nat) (M : SM) : Prop := (∃ bO cv, Ro w T q p bO cv (keptS M) M) ∧ WfS M c
theorem Sto.far {S : Nat → Prop} {w w' : World} {T : Nat → Prop} {c q p : Nat} {M : SM} (h : Sto w T c q p M) (t : Tch S w w') (hS : ∀ j, S j → ¬ T j) : Sto w' T c q p M := by
  obtain ⟨⟨bO, cv, R⟩, hw⟩ := h
  exact ⟨⟨bO, cv, R.far t hS⟩, hw⟩
theorem Sto.below {w w' : World} {T : Nat → Prop} {c q p : Nat} {M : SM} (h : Sto w T c q p M) (k : Below w.heap.size w w') : Sto w' T c q p M := by
  obtain ⟨⟨bO, cv, R⟩, hw⟩ := h
  exact ⟨⟨bO, cv, R.below k⟩, hw⟩
theorem Byt.re {w : World} {T T' : Nat → Prop} {d : DataW Unit} {l : List Nat} (h : Byt w T d l) (hT : ∀ k, T k → k < w.heap.size → T' k) : Byt w T' d l := by
  obtain ⟨v, h1, h2, h3⟩ := h
  exact ⟨v, h1, h2, fun g hg => hT g (h3 g hg) (h2.lt g hg).2⟩
theorem Sto.re {w : World} {T T' : Nat → Prop} {c q p : Nat} {M : SM} (h : Sto w T c q p M) (hT : ∀ k, T k → k < w.heap.size → T' k) : Sto w T' c q p M := by
  obtain ⟨⟨bO, cv, R⟩, hw⟩ := h
  obtain ⟨D, h1, h2, h3⟩ := R.ob
  exact ⟨⟨bO, cv, R.q_, R.p_, ⟨D, h1, h2, fun k l hk => (h3 k l hk).re hT⟩, R.ch, hT _ R.tq (R.lt _ (.inl rfl)), hT _ R.tp (R.lt _ (.inr (.inl rfl))), hT _ R.tb (R.lt _ (.inr (.inr (.inl rfl)))), fun g hg => hT _ (R.tc g hg) (R.lt _ (.inr (.inr (.inr hg))))⟩, hw⟩
theorem Sto.le {w : World} {T : Nat → Prop} {c d q p : Nat} {M : SM} (h : Sto w T c q p M) (hd : c ≤ d) (hh : d ≤ 4194304) : Sto w T d q p M := ⟨h.1, h.2.le hd hh⟩
theorem Sto.tp {w : World} {T : Nat → Prop} {c q p : Nat} {M : SM} (h : Sto w T c q p M) : T p ∧ p < w.heap.size := by
  obtain ⟨⟨bO, cv, R⟩, _⟩ := h
  exact ⟨R.tp, R.lt _ (.inr (.inl rfl))⟩
end Go.Proofs.Ytcohpgahffbnlaa
