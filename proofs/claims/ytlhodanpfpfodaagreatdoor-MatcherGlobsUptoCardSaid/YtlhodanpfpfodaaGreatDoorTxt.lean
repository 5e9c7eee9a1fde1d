/-
  The text that matcher's Parse reads: blanks, what stands there, a word. Conditions: the text lies in a block of its own.
-/
import Derived.Test.YtlhodanpfpfodaaGreatDoorQry0
import Derived.Test.YtlhodanpfpfodaaGreatDoorTMath
namespace Go.Icz
open Go.RowKit
/-- What has turned lies in S. -/
structure Tch (S : Nat → Prop) (w w' : World) : Prop where
  os : w'.os = w.os
  tape : w'.tape = w.tape
  output : w'.output = w.output
  size : w.heap.size ≤ w'.heap.size
  block : ∀ k, k < w.heap.size → ¬ S k → w'.heap[k]? = w.heap[k]?
theorem Tch.refl (S : Nat → Prop) (w : World) : Tch S w w := ⟨rfl, rfl, rfl, Nat.le_refl _, fun _ _ _ => rfl⟩
theorem Tch.trans {S : Nat → Prop} {a b c : World} (h : Tch S a b) (k : Tch S b c) : Tch S a c :=
  ⟨k.os.trans h.os, k.tape.trans h.tape, k.output.trans h.output, Nat.le_trans h.size k.size, fun j hj hn => (k.block j (Nat.lt_of_lt_of_le hj h.size) hn).trans (h.block j hj hn)⟩
theorem Tch.mono {S T : Nat → Prop} {w w' : World} (h : Tch S w w') (hST : ∀ k, S k → T k) : Tch T w w' := ⟨h.os, h.tape, h.output, h.size, fun j hj hn => h.block j hj (fun hs => hn (hST j hs))⟩
theorem Tch.of_below {S : Nat → Prop} {w w' : World} (h : Below w.heap.size w w') : Tch S w w' := ⟨h.os, h.tape, h.output, h.size, fun j hj _ => h.block j hj⟩
theorem Tch.alloc (S : Nat → Prop) (w : World) (o : Obj) : Tch S w (w.alloc o) := .of_below ((Below.refl _ w).alloc (Nat.le_refl _) _)
theorem Tch.drew (S : Nat → Prop) (w : World) : Tch S w w.drew := ⟨rfl, rfl, rfl, Nat.le_refl _, fun _ _ _ => rfl⟩
theorem Tch.set (S : Nat → Prop) (w : World) (p : Addr) (u : Value) (hp : S p.block) : Tch S w (w.setCell p u) :=
  ⟨rfl, rfl, rfl, by simp [World.setCell], fun k _ hk => Below.heap_setCell _ _ _ _ (fun e => hk (by rw [e]; exact hp))⟩
theorem Tch.below {S : Nat → Prop} {B : Nat} {a w w' : World} (h : Below B a w) (k : Tch S w w') (hS : ∀ j, S j → B ≤ j) (hB : B ≤ w.heap.size) : Below B a w' :=
  h.trans ⟨k.os, k.tape, k.output, k.size, fun j hj => k.block j (by omega) (fun hs => by have := hS j hs; omega)⟩
theorem Tch.row {S : Nat → Prop} {w w' : World} (h : Tch S w w') {b : Nat} {cs : Array Value} {t : TypeId} {z : Nat × Nat} (hr : w.heap[b]? = some (.cells cs t z)) (hn : ¬ S b) : w'.heap[b]? = some (.cells cs t z) :=
  (h.block b (Array.getElem?_eq_some_iff.1 hr).1 hn).trans hr
theorem row_set {w : World} {b i : Nat} {cs : Array Value} {t : TypeId} (h : w.heap[b]? = some (.cells cs t (0, 0))) (u : Value) : (w.setCell ⟨b, i, none⟩ u).heap[b]? = some (.cells (cs.setIfInBounds i u) t (0, 0)) := by
  simp [World.setCell, Array.getElem?_modify, h]
/-- The words of a query's text. -/
def wordP (name s : B8) : Option B8 := match s with
  | 32 :: t => if Lib.hasPrefix (Lib.trimLeftB t 32) name = true then some ((Lib.trimLeftB t 32).drop name.length) else none
  | _ => none
end Go.Icz
namespace Go.Proofs.YtlhodanpfpfodaaGreatDoor
open Go.RowKit Go.Icz
/-- The text in block g. -/
def TxAt (w : World) (g : Nat) (l : B8) : Prop := w.heap[g]? = some (.cells #[.string ⟨l.toArray⟩] 101 (0, 0))
theorem TxAt.lt {w : World} {g : Nat} {l : B8} (h : TxAt w g l) : g < w.heap.size := (Array.getElem?_eq_some_iff.1 h).1
theorem TxAt.cell {w : World} {g : Nat} {l : B8} (h : TxAt w g l) : w.cell? ⟨g, 0, none⟩ = some (.string ⟨l.toArray⟩) := held_cell h rfl
theorem TxAt.frozen {w : World} {g : Nat} {l : B8} (h : TxAt w g l) : w.frozen? ⟨g, 0, none⟩ = false := held_frozen h
theorem TxAt.set {w : World} {g : Nat} {l : B8} (h : TxAt w g l) (m : B8) : TxAt (w.setCell ⟨g, 0, none⟩ (.string ⟨m.toArray⟩)) g m := row_set h _
theorem TxAt.touch {S : Nat → Prop} {w w' : World} {g : Nat} {l : B8} (h : TxAt w g l) (k : Tch S w w') (hn : ¬ S g) : TxAt w' g l := k.row h hn
theorem TxAt.alloc {w : World} {g : Nat} {l : B8} (h : TxAt w g l) (o : Obj) : TxAt (w.alloc o) g l := (heap_alloc_old w o h.lt).trans h
theorem trim_less (l : B8) : decide ((trimL l).length < l.length) = (match l with | 32 :: _ => true | _ => false) := by
  cases l with
  | nil => rfl
  | cons c t =>
    by_cases hc : c = 32
    · subst hc
      rw [trimL_blank]
      have := trimL_le t
      simp
      omega
    · rw [trimL_head hc]
      simp
      split
      · rename_i e; injection e with e1; exact absurd e1 hc
      · rfl
/-- Does it begin with a blank? -/
def blankS (l : B8) : Bool := match l with | 32 :: _ => true | _ => false
set_option maxRecDepth 100000 in
theorem Tblanks_is (g : Nat) (l : B8) (w : World) (h : TxAt w g l) :
    Calls Tryz.prog 57 #[.pointer (some ⟨g, 0, none⟩)] w fun e w' => e = .returned (.bool (blankS l)) ∧ TxAt w' g (trimL l) ∧ Tch (· = g) w w' := by
  have hT := Tryz.strings_TrimLeft_one ⟨l.toArray⟩ 32 (by decide) w
  have c0 := h.cell
  have f0 := h.frozen
  have hset := h.set (trimL l)
  have hb : Hid (blankS l = decide ((trimL l).length < l.length)) := hid (trim_less l).symm
  have e : Lib.trimLeftB l 32 = trimL l := rfl
  simp only [e] at hT
  have tS := Tch.set (· = g) w ⟨g, 0, none⟩ (.string ⟨(trimL l).toArray⟩) rfl
  generalize trimL l = m at *
  go_enter Tryz.func57, Tryz.ntmps57
  go_wp2_with (go_at_call 73; refine hT.mono ?_; rintro e w1 ⟨rfl, rfl⟩)
  go_ret
  exact ⟨by rw [hb.out]; rfl, hset, tS⟩
set_option maxRecDepth 100000 in
theorem Ttake_is (g : Nat) (l p : B8) (w : World) (h : TxAt w g l) :
    Calls Tryz.prog 91 #[.pointer (some ⟨g, 0, none⟩), .string ⟨p.toArray⟩] w fun e w' => e = .returned (.bool (Lib.hasPrefix l p)) ∧ TxAt w' g (Lib.trimPrefix l p) ∧ Tch (· = g) w w' := by
  have hT := Tryz.strings_CutPrefix ⟨l.toArray⟩ ⟨p.toArray⟩ w
  have c0 := h.cell
  have f0 := h.frozen
  have hset := h.set (Lib.trimPrefix l p)
  have tS := Tch.set (· = g) w ⟨g, 0, none⟩ (.string ⟨(Lib.trimPrefix l p).toArray⟩) rfl
  simp only [] at hT
  generalize Lib.trimPrefix l p = m at *
  generalize Lib.hasPrefix l p = b at *
  go_enter Tryz.func91, Tryz.ntmps91
  go_wp2_with (go_at_call 72; refine hT.mono ?_; rintro e w1 ⟨rfl, rfl⟩)
  go_ret
  exact ⟨rfl, hset, tS⟩
theorem take_yes {l p t : B8} (h : l = p ++ t) : Lib.hasPrefix l p = true ∧ Lib.trimPrefix l p = t := by
  have h1 : Lib.hasPrefix l p = true := (hasPrefix_iff _ _).2 ⟨t, h⟩
  refine ⟨h1, ?_⟩
  unfold Lib.trimPrefix
  rw [if_pos h1, h, List.drop_left]
theorem take_no {l p : B8} (h : Lib.hasPrefix l p = false) : Lib.trimPrefix l p = l := by
  unfold Lib.trimPrefix
  rw [if_neg (by rw [h]; simp)]
def wordOut (o : Option B8) (l : B8) : Bool × B8 := match o with | some r => (true, r) | none => (false, l)
set_option maxHeartbeats 1000000 in
set_option maxRecDepth 100000 in
theorem Tword_is (g : Nat) (l p : B8) (w : World) (h : TxAt w g l) :
    Calls Tryz.prog 93 #[.pointer (some ⟨g, 0, none⟩), .string ⟨p.toArray⟩] w fun e w' => e = .returned (.bool (wordOut (wordP p l) l).1) ∧ TxAt w' g (wordOut (wordP p l) l).2 ∧ Tch (· = g) w w' := by
  have c0 := h.cell
  have f0 := h.frozen
  have hlt := h.lt
  have hnew : TxAt (w.alloc (.cells #[.string ⟨l.toArray⟩] 101)) w.heap.size l := heap_alloc_new w _
  have hB := Tblanks_is w.heap.size l _ hnew
  have hK := fun w1 (h1 : TxAt w1 w.heap.size (trimL l)) => Ttake_is w.heap.size (trimL l) p w1 h1
  have keep : ∀ w1, Tch (· = w.heap.size) (w.alloc (.cells #[.string ⟨l.toArray⟩] 101)) w1 → Tch (· = g) w w1 ∧ TxAt w1 g l := fun w1 k =>
    ⟨(Tch.of_below (((Below.refl _ w).alloc (Nat.le_refl _) _).trans ⟨k.os, k.tape, k.output, Nat.le_trans (by simp) k.size, fun j hj => k.block j (by simp; omega) (by omega)⟩)), (h.alloc _).touch k (by omega)⟩
  cases hb : blankS l with
  | false =>
    have HN : Hid (wordP p l = none) := hid (by
      unfold wordP
      split
      · rename_i t; cases hb
      · rfl)
    rw [hb] at hB
    clear hK
    go_enter Tryz.func93, Tryz.ntmps93
    go_wp2_with (go_at_call 57; refine hB.mono ?_; rintro e w1 ⟨rfl, A1, k1⟩)
    go_ret
    rw [HN.out]
    obtain ⟨k2, A2⟩ := keep _ k1
    exact ⟨rfl, A2, k2⟩
  | true =>
    have hl : ∃ t, l = 32 :: t := by
      cases l with
      | nil => cases hb
      | cons c t =>
        by_cases hc : c = 32
        · exact ⟨t, by rw [hc]⟩
        · exfalso
          unfold blankS at hb
          split at hb
          · rename_i e; injection e with e1; exact hc e1
          · cases hb
    obtain ⟨t, rfl⟩ := hl
    rw [hb] at hB
    rw [trimL_blank] at hB hK
    have HW : wordP p (32 :: t) = if Lib.hasPrefix (trimL t) p = true then some ((trimL t).drop p.length) else none := rfl
    cases hp : Lib.hasPrefix (trimL t) p with
    | false =>
      have HN : Hid (wordP p (32 :: t) = none) := hid (by rw [HW, hp]; rfl)
      rw [hp] at hK
      clear HW hp hb
      generalize (32 :: t) = l at *
      go_enter Tryz.func93, Tryz.ntmps93
      go_wp2_with (first
        | (go_at_call 57; refine hB.mono ?_; rintro e w1 ⟨rfl, A1, k1⟩; clear hB)
        | (go_at_call 91; refine (hK _ A1).mono ?_; rintro e w2 ⟨rfl, A2, k2⟩; clear hK))
      go_ret
      rw [HN.out]
      obtain ⟨k3, A3⟩ := keep _ (k1.trans k2)
      exact ⟨rfl, A3, k3⟩
    | true =>
      have HN : Hid (wordP p (32 :: t) = some (Lib.trimPrefix (trimL t) p)) := hid (by rw [HW, if_pos hp]; unfold Lib.trimPrefix; rw [if_pos hp])
      rw [hp] at hK
      clear HW hp hb
      generalize (32 :: t) = l at *
      generalize Lib.trimPrefix (trimL t) p = r at *
      go_enter Tryz.func93, Tryz.ntmps93
      go_wp2_with (first
        | (go_at_call 57; refine hB.mono ?_; rintro e w1 ⟨rfl, A1, k1⟩; clear hB)
        | (go_at_call 91; refine (hK _ A1).mono ?_; rintro e w2 ⟨rfl, A2, k2⟩; have kk := keep _ (k1.trans k2); have e0 := A2.cell; have ff := kk.2.frozen; have cc := kk.2.cell; clear hK))
      go_ret
      rw [HN.out]
      exact ⟨rfl, kk.2.set r, kk.1.trans (Tch.set _ _ _ _ rfl)⟩
end Go.Proofs.YtlhodanpfpfodaaGreatDoor
