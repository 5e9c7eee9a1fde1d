/-
  A disk and its calls in one word; bytes as a text; the law's knows: a piece that is lost between two that are not. Conditions: those that each theorem names.
-/
import Derived.Test.YtjpneohachkheaaSmc
import Derived.Lib.SlBytesConst
import Derived.Laws.BytesString
import Derived.Laws.BytesArg
import Derived.Laws.IdiomStrings
namespace Go.Icz
open Go.RowKit Go.Maps Go.ChangeMaps Go.MapKept
/-- Bytes as a text. -/
def strB (l : List Nat) : ByteArray := ⟨(l.map fun n : Nat => UInt8.ofNat n).toArray⟩
def kA : ByteArray := ⟨#[97]⟩
def m1 : DM := ⟨false, -1, 0, false, 100, [f0], [(kA, 0)], [], [.create kA 0]⟩
def m2 : DM := ⟨false, -1, 0, false, 100, [⟨[120], 0, [1]⟩], [(kA, 0)], [], [.create kA 0]⟩
def m3 : DM := ⟨false, -1, 0, false, 100, [⟨[120, 121], 0, [1, 1]⟩], [(kA, 0)], [], [.create kA 0]⟩
def m4 : DM := ⟨false, -1, 0, false, 100, [⟨[0, 121], 2, []⟩], [(kA, 0)], [(kA, 0)], []⟩
theorem rightA : rightB kA = true := by decide
theorem step1 : createM (newM 100) kA = (0, m1) := by
  have h : agCreate (newM 100) kA = 0 := by unfold agCreate; rw [rightA]; rfl
  unfold createM
  rw [h]
  rfl
theorem lookA : nlook [(kA, 0)] kA = some 0 := by simp [nlook]
theorem step2 : appendM m1 kA [120] = (0, m2) := by
  have h : agMore m1 kA [120].length = 0 := by unfold agMore; rw [show m1.names = [(kA, 0)] from rfl, lookA]; rfl
  unfold appendM
  rw [h]
  unfold opM
  simp [m1, m2, askM, actMore, lookA, setF, extF, fileAt, f0]
theorem step3 : appendM m2 kA [121] = (0, m3) := by
  have h : agMore m2 kA [121].length = 0 := by unfold agMore; rw [show m2.names = [(kA, 0)] from rfl, lookA]; rfl
  unfold appendM
  rw [h]
  unfold opM
  simp [m2, m3, askM, actMore, lookA, setF, extF, fileAt, f0]
theorem step4 : crashM m3 [true, false, true] = m4 := by
  have hc : chgo m3.ch m3.sure [true, false, true] = ([(kA, 0)], [false, true]) := by
    simp [chgo, m3, nchange, nput, ndel]
  have hr : rising [(kA, 0)] = [[97]] := by simp [rising, kA]
  have hi : idx [(kA, 0)] [[97]] = [0] := by
    unfold idx
    rw [List.map_cons, List.map_nil, show (⟨[(97 : UInt8)].toArray⟩ : ByteArray) = kA from rfl, lookA]
    rfl
  unfold crashM
  rw [hc]
  simp only
  rw [hr, hi]
  simp [m3, m4, fgo, fcr, cgo, fileAt, zero]
theorem read4 : readM m4 kA = ([0, 121], 0) := by simp [readM, m4, lookA, fileAt]
theorem used4 : used m4.fs m4.names = 2 := by simp [used, m4, fileAt]
end Go.Icz
namespace Go.Proofs.Ytjpneohachkheaa
open Go.RowKit Go.Icz Go.Maps Go.ChangeMaps Go.MapKept
set_option maxRecDepth 100000
set_option maxHeartbeats 2000000
variable {w w' : World} {T T' : Nat → Prop} {c c' q p : Nat} {M M' : DM}
/-- A disk. -/
def Dsk (w : World) (T : Nat → Prop) (c q p : Nat) (M : DM) : Prop := ∃ n s cv fl, Pl w T c q p n s cv fl M
theorem Dsk.re (h : Dsk w T c q p M) (hT : ∀ k, T k → k < w.heap.size → T' k) : Dsk w T' c q p M := by
  obtain ⟨n, s, cv, fl, P⟩ := h
  exact ⟨n, s, cv, fl, P.re (fun k hk => hT k (P.ft k hk) (P.lt k hk))⟩
theorem Dsk.below (h : Dsk w T c q p M) (b : Below w.heap.size w w') : Dsk w' T c q p M := by
  obtain ⟨n, s, cv, fl, P⟩ := h
  exact ⟨n, s, cv, fl, P.below b⟩
theorem Dsk.touch {S : Nat → Prop} (h : Dsk w T c q p M) (t : Tch S w w') (hS : ∀ k, S k → ¬ T k) : Dsk w' T c q p M := by
  obtain ⟨n, s, cv, fl, P⟩ := h
  exact ⟨n, s, cv, fl, P.touch t (fun k hk hf => hS k hk (P.ft k hf))⟩
theorem Dsk.up (h : Dsk w T c q p M) (hc : c ≤ c') (hb : c' ≤ 1048576) : Dsk w T c' q p M := by
  obtain ⟨n, s, cv, fl, P⟩ := h
  exact ⟨n, s, cv, fl, P.up hc hb⟩
theorem Dsk.wf (h : Dsk w T c q p M) : WfM M c := by
  obtain ⟨n, s, cv, fl, P⟩ := h
  exact P.wf
theorem Dsk.tp (h : Dsk w T c q p M) : T p ∧ p < w.heap.size := by
  obtain ⟨n, s, cv, fl, P⟩ := h
  exact ⟨P.ft _ (.inr (.inl rfl)), P.lt _ (.inr (.inl rfl))⟩
/-- What a call leaves. -/
def Dn (w : World) (T : Nat → Prop) (c q p : Nat) (M : DM) (w' : World) : Prop := Dsk w' T c q p M ∧ Tch T w w'
theorem Create_d (h : Dsk w T c q p M) (hT : ∀ k, w.heap.size ≤ k → T k) (k : ByteArray) (hk : k.size ≤ maxLen) (hb : c + 2 ≤ 1048576) :
    Calls Try.prog 13 #[.pointer (some ⟨q, 0, none⟩), .string k] w fun e w' => e = .returned (.int .i64 (createM M k).1) ∧ Dn w T (c + 2) q p (createM M k).2 w' := by
  obtain ⟨n, s, cv, fl, P⟩ := h
  exact Create_is P hT k hk hb
theorem Append_d (h : Dsk w T c q p M) (hT : ∀ k, w.heap.size ≤ k → T k) (k : ByteArray) (hk : k.size ≤ maxLen) {A : Option Addr} {C : Nat} {l : List Nat} (hu : KB.Rd w (.slice A l.length C) l) (hl : l.length ≤ 1125899906842624) (hfar : 0 < l.length → ∀ b, (Value.slice A l.length C).ownBlock = some b → b ≠ p) (hb : c + 2 ≤ 1048576) :
    Calls Try.prog 14 #[.pointer (some ⟨q, 0, none⟩), .string k, .slice A l.length C] w fun e w' => e = .returned (.int .i64 (appendM M k l).1) ∧ Dn w T (c + 2) q p (appendM M k l).2 w' := by
  obtain ⟨n, s, cv, fl, P⟩ := h
  exact Append_is P hT k hk hu hl hfar hb
theorem Rename_d (h : Dsk w T c q p M) (hT : ∀ k, w.heap.size ≤ k → T k) (a b : ByteArray) (ha : a.size ≤ maxLen) (hb2 : b.size ≤ maxLen) (hb : c + 2 ≤ 1048576) :
    Calls Try.prog 15 #[.pointer (some ⟨q, 0, none⟩), .string a, .string b] w fun e w' => e = .returned (.int .i64 (renameM M a b).1) ∧ Dn w T (c + 2) q p (renameM M a b).2 w' := by
  obtain ⟨n, s, cv, fl, P⟩ := h
  exact Rename_is P hT a b ha hb2 hb
theorem Remove_d (h : Dsk w T c q p M) (hT : ∀ k, w.heap.size ≤ k → T k) (k : ByteArray) (hk : k.size ≤ maxLen) (hb : c + 2 ≤ 1048576) :
    Calls Try.prog 16 #[.pointer (some ⟨q, 0, none⟩), .string k] w fun e w' => e = .returned (.int .i64 (removeM M k).1) ∧ Dn w T (c + 2) q p (removeM M k).2 w' := by
  obtain ⟨n, s, cv, fl, P⟩ := h
  exact Remove_is P hT k hk hb
theorem Sync_d (h : Dsk w T c q p M) (hT : ∀ k, w.heap.size ≤ k → T k) (k : ByteArray) (hk : k.size ≤ maxLen) (hb : c + 2 ≤ 1048576) :
    Calls Try.prog 17 #[.pointer (some ⟨q, 0, none⟩), .string k] w fun e w' => e = .returned (.int .i64 (syncM M k).1) ∧ Dn w T (c + 2) q p (syncM M k).2 w' := by
  obtain ⟨n, s, cv, fl, P⟩ := h
  exact Sync_is P hT k hk hb
theorem SyncDir_d (h : Dsk w T c q p M) (hT : ∀ k, w.heap.size ≤ k → T k) (hb : c + 2 ≤ 1048576) :
    Calls Try.prog 18 #[.pointer (some ⟨q, 0, none⟩)] w fun e w' => e = .returned (.int .i64 (dirM M).1) ∧ Dn w T (c + 2) q p (dirM M).2 w' := by
  obtain ⟨n, s, cv, fl, P⟩ := h
  exact SyncDir_is P hT hb
theorem Fail_d (h : Dsk w T c q p M) (k : Int) (d : Bool) (hk : k ≤ 9223372036854775807) :
    Calls Try.prog 8 #[.pointer (some ⟨q, 0, none⟩), .int .i64 k, .bool d] w fun e w' => e = .returned (.tuple #[]) ∧ Dn w T c q p (failM M k d) w' := by
  obtain ⟨n, s, cv, fl, P⟩ := h
  exact Fail_is P k d hk
theorem Cut_d (h : Dsk w T c q p M) (k : Int) (hk : k ≤ 9223372036854775807) :
    Calls Try.prog 9 #[.pointer (some ⟨q, 0, none⟩), .int .i64 k] w fun e w' => e = .returned (.tuple #[]) ∧ Dn w T c q p (cutM M k) w' := by
  obtain ⟨n, s, cv, fl, P⟩ := h
  exact Cut_is P k hk
theorem Crash_d (h : Dsk w T c q p M) (hT : ∀ k, w.heap.size ≤ k → T k) (hb : c + c ≤ 1048576) {A : Option Addr} {L C : Nat} {keep : List Bool} (hk : KBo.Rd w (.slice A L C) keep) (hfar : 0 < keep.length → ∀ b, (Value.slice A L C).ownBlock = some b → ¬ T b) :
    Calls Try.prog 10 #[.pointer (some ⟨q, 0, none⟩), .slice A L C] w fun e w' => e = .returned (.tuple #[]) ∧ Dn w T c q p (crashM M keep) w' := by
  obtain ⟨n, s, cv, fl, P⟩ := h
  exact Crash_is P hT hb hk (fun h0 b hb' hf => hfar h0 b hb' (P.ft b hf))
theorem Read_d (h : Dsk w T c q p M) (k : ByteArray) (hk : k.size ≤ maxLen) :
    Calls Try.prog 11 #[.pointer (some ⟨q, 0, none⟩), .string k] w fun e w' => ∃ A C, e = .returned (.tuple #[.slice A (readM M k).1.length C, .int .i64 (readM M k).2]) ∧ KB.Own w' w.heap.size (.slice A (readM M k).1.length C) (readM M k).1 ∧ Below w.heap.size w w' := by
  obtain ⟨n, s, cv, fl, P⟩ := h
  exact Read_is P k hk
theorem List_d (h : Dsk w T c q p M) : Calls Try.prog 19 #[.pointer (some ⟨q, 0, none⟩)] w fun e w' => ∃ v, e = .returned v ∧ KS.Own w' w.heap.size v ((listM M).map kb) ∧ Below w.heap.size w w' := by
  obtain ⟨n, s, cv, fl, P⟩ := h
  exact List_is P
theorem tch_below (h : Tch (fun _ => False) w w') : Below w.heap.size w w' := ⟨h.os, h.tape, h.output, h.size, fun k hk => h.block k hk (fun h => h)⟩
theorem Used_d (h : Dsk w T c q p M) : Calls Try.prog 20 #[.pointer (some ⟨q, 0, none⟩)] w fun e w' => e = .returned (.int .i64 (used M.fs M.names : Nat)) ∧ Below w.heap.size w w' := by
  obtain ⟨n, s, cv, fl, P⟩ := h
  exact (Used_is P).mono fun e w' ⟨he, ht⟩ => ⟨he, tch_below ht⟩
theorem Free_d (h : Dsk w T c q p M) : Calls Try.prog 21 #[.pointer (some ⟨q, 0, none⟩)] w fun e w' => e = .returned (.int .i64 ((M.quota : Int) - (used M.fs M.names : Nat))) ∧ Below w.heap.size w w' := by
  obtain ⟨n, s, cv, fl, P⟩ := h
  exact (Free_is P).mono fun e w' ⟨he, ht⟩ => ⟨he, tch_below ht⟩
theorem Down_d (h : Dsk w T c q p M) : Calls Try.prog 22 #[.pointer (some ⟨q, 0, none⟩)] w fun e w' => e = .returned (.bool M.off) ∧ w' = w := by
  obtain ⟨n, s, cv, fl, P⟩ := h
  exact Down_is P
theorem num_is (a : Int) (w : World) : Calls Try.prog 12 #[.int .i64 a] w fun e w' => e = .returned (.int .i64 a) ∧ w' = w := by
  go_enter Try.func12, Try.ntmps12
  go_wp2
  go_ret
  exact ⟨rfl, rfl⟩
theorem conv_kb {v : Value} {l : List Nat} (h : KB.Rd w v l) : (convert 22 9 v).run Try.prog w = .ok (.string (strB l)) w := by
  obtain ⟨A, c, rfl, hc, hr⟩ := h
  rcases Nat.eq_zero_or_pos l.length with h0 | h0
  · have hl : l = [] := List.eq_nil_of_length_eq_zero h0
    subst hl
    rcases A with _ | ad
    · exact run_convert_bytes_nil w 22 5 Try.underlying22 Try.underlying5 _ _ 9 Try.underlying9
    · rw [run_convert_bytes_string w 22 9 5 _ _ _ Try.underlying22 Try.underlying5 Try.underlying9]
      exact run_bytesToString w ad 0 c [] (by simp [loadCells, loadCellsFrom])
  · obtain ⟨b, off, rfl, _, hcell⟩ := hr h0
    rw [run_convert_bytes_string w 22 9 5 _ _ _ Try.underlying22 Try.underlying5 Try.underlying9]
    have hl := run_loadCells_list (P := Try.prog) w ⟨b, off, none⟩ ((l.map fun n : Nat => (n : Int)).map (Value.int .u8)) (fun j u hj => by
      rw [add_flat]
      refine hcell j u ?_
      rw [KB_cells, ← hj]
      simp [List.map_map, Function.comp_def])
    simp only [List.length_map] at hl
    rw [run_bytesToString w _ l.length c _ hl, foldl_push_bytes]
    simp [strB, ByteArray.empty, ByteArray.emptyWithCapacity, Function.comp_def]
    rfl
theorem rd_one (w : World) (a : Nat) : KB.Rd (w.alloc (.cells #[.int .u8 (a : Int)] 5 (1, 2))) (.slice (some ⟨w.heap.size, 0, none⟩) 1 1) [a] := by
  have h := heap_alloc_new w (.cells #[.int .u8 (a : Int)] 5 (1, 2))
  refine ⟨_, 1, rfl, by simp, fun _ => ⟨w.heap.size, 0, rfl, by simp, fun j u hj => ?_⟩⟩
  rw [cell_of_row _ _ _ _ _ _ h]
  rw [KB_cells] at hj
  match j, hj with
  | 0, hj => exact hj
  | j + 1, hj => cases hj
theorem New_d (qu : Nat) (w : World) (h1 : 1 ≤ qu) (h2 : qu ≤ 1048576) (hT : ∀ k, w.heap.size ≤ k → T k) :
    Calls Try.prog 24 #[.int .i64 (qu : Int)] w fun e w' => ∃ q p, e = .returned (.tuple #[.pointer (some ⟨q, 0, none⟩), .int .i64 0]) ∧ Dsk w' T 0 q p (newM qu) ∧ Below w.heap.size w w' :=
  (New_is qu w h1 h2 hT).mono fun e w' ⟨q, p, he, hd, hb⟩ => ⟨q, p, he, hd.1, hb⟩
theorem tch_up {B : Nat} (h : Tch (fun k => B ≤ k) w w') (hB : B ≤ w.heap.size) : Below B w w' := h.to_below (fun _ h => h) hB
theorem knows_is (w : World) : Calls Try.prog 23 #[] w fun e w' => e = .returned (.bool true) ∧ Below w.heap.size w w' := by
  have hN : Calls Try.prog 24 #[.int .i64 100] w fun e w' => ∃ q p, e = .returned (.tuple #[.pointer (some ⟨q, 0, none⟩), .int .i64 0]) ∧ Dsk w' (fun k => w.heap.size ≤ k) 0 q p (newM 100) ∧ Below w.heap.size w w' := New_d 100 w (by decide) (by decide) (fun _ h => h)
  have P1 : ∀ w1 q p, Dsk w1 (fun k => w.heap.size ≤ k) 0 q p (newM 100) → Below w.heap.size w w1 → Calls Try.prog 13 #[.pointer (some ⟨q, 0, none⟩), .string ⟨#[97]⟩] w1 fun e w' => e = .returned (.int .i64 0) ∧ Dsk w' (fun k => w.heap.size ≤ k) 2 q p m1 ∧ Below w.heap.size w w' := fun w1 q p h b => by
    refine (Create_d h (fun k hk => Nat.le_trans b.size hk) kA (by decide) (by decide)).mono ?_
    rw [step1]
    rintro e w2 ⟨rfl, D, t⟩
    exact ⟨rfl, D, b.trans (tch_up t b.size)⟩
  have lit : ∀ (w1 : World) (o : Obj) (q p c : Nat) (M : DM), Dsk w1 (fun k => w.heap.size ≤ k) c q p M → Dsk (w1.alloc o) (fun k => w.heap.size ≤ k ∧ k ≠ w1.heap.size) c q p M := fun w1 o q p c M h => (h.re (T' := fun k => w.heap.size ≤ k ∧ k ≠ w1.heap.size) (fun k hk hlt => ⟨hk, Nat.ne_of_lt hlt⟩)).below ((Below.refl _ w1).alloc (Nat.le_refl _) o)
  have hTl : ∀ (w1 : World) (o : Obj), Below w.heap.size w w1 → ∀ k, (w1.alloc o).heap.size ≤ k → w.heap.size ≤ k ∧ k ≠ w1.heap.size := fun w1 o b k hk => by
    rw [World.size_alloc] at hk
    have := b.size
    exact ⟨by omega, by omega⟩
  have wide : ∀ (w1 w2 : World) (o : Obj) (q p c : Nat) (M : DM), Below w.heap.size w w1 → Dn (w1.alloc o) (fun k => w.heap.size ≤ k ∧ k ≠ w1.heap.size) c q p M w2 → Dsk w2 (fun k => w.heap.size ≤ k) c q p M ∧ Below w.heap.size w w2 := fun w1 w2 o q p c M b D =>
    ⟨D.1.re (fun k hk _ => hk.1), (b.alloc b.size o).trans (tch_up (D.2.mono (fun k hk => hk.1)) (by rw [World.size_alloc]; have := b.size; omega))⟩
  have P2 : ∀ w1 q p, Dsk w1 (fun k => w.heap.size ≤ k) 2 q p m1 → Below w.heap.size w w1 → Calls Try.prog 14 #[.pointer (some ⟨q, 0, none⟩), .string ⟨#[97]⟩, .slice (some ⟨w1.heap.size, 0, none⟩) 1 1] (w1.alloc (.cells #[.int .u8 120] 5 (1, 2))) fun e w' => e = .returned (.int .i64 0) ∧ Dsk w' (fun k => w.heap.size ≤ k) 4 q p m2 ∧ Below w.heap.size w w' := fun w1 q p h b => by
    have hl := lit w1 (.cells #[.int .u8 120] 5 (1, 2)) q p 2 m1 h
    refine (Append_d hl (hTl w1 _ b) kA (by decide) (l := [120]) (rd_one w1 120) (by decide) (fun _ b' hb' => by injection hb' with hb'; have := hl.tp.1.2; intro e; exact this (e ▸ hb'.symm)) (by decide)).mono ?_
    rw [step2]
    rintro e w2 ⟨rfl, D⟩
    exact ⟨rfl, wide w1 w2 _ q p 4 m2 b D⟩
  have P3 : ∀ w1 q p, Dsk w1 (fun k => w.heap.size ≤ k) 4 q p m2 → Below w.heap.size w w1 → Calls Try.prog 14 #[.pointer (some ⟨q, 0, none⟩), .string ⟨#[97]⟩, .slice (some ⟨w1.heap.size, 0, none⟩) 1 1] (w1.alloc (.cells #[.int .u8 121] 5 (1, 2))) fun e w' => e = .returned (.int .i64 0) ∧ Dsk w' (fun k => w.heap.size ≤ k) 6 q p m3 ∧ Below w.heap.size w w' := fun w1 q p h b => by
    have hl := lit w1 (.cells #[.int .u8 121] 5 (1, 2)) q p 4 m2 h
    refine (Append_d hl (hTl w1 _ b) kA (by decide) (l := [121]) (rd_one w1 121) (by decide) (fun _ b' hb' => by injection hb' with hb'; have := hl.tp.1.2; intro e; exact this (e ▸ hb'.symm)) (by decide)).mono ?_
    rw [step3]
    rintro e w2 ⟨rfl, D⟩
    exact ⟨rfl, wide w1 w2 _ q p 6 m3 b D⟩
  have P4 : ∀ w1 q p, Dsk w1 (fun k => w.heap.size ≤ k) 6 q p m3 → Below w.heap.size w w1 → Calls Try.prog 10 #[.pointer (some ⟨q, 0, none⟩), .slice (some ⟨w1.heap.size, 0, none⟩) 3 3] (w1.alloc (.cells #[.bool true, .bool false, .bool true] 4)) fun e w' => e = .returned (.tuple #[]) ∧ Dsk w' (fun k => w.heap.size ≤ k) 6 q p m4 ∧ Below w.heap.size w w' := fun w1 q p h b => by
    have hl := lit w1 (.cells #[.bool true, .bool false, .bool true] 4) q p 6 m3 h
    have hr : KBo.Rd (w1.alloc (.cells #[.bool true, .bool false, .bool true] 4)) (.slice (some ⟨w1.heap.size, 0, none⟩) 3 3) [true, false, true] := (Kd.Own.lit (K := KBo) w1 [true, false, true] (by decide) (Nat.zero_le _)).rd
    refine (Crash_d hl (hTl w1 _ b) (by decide) hr (fun _ b' hb' hk => by injection hb' with hb'; exact hk.2 hb'.symm)).mono ?_
    rw [step4]
    rintro e w2 ⟨rfl, D⟩
    exact ⟨rfl, wide w1 w2 _ q p 6 m4 b D⟩
  have P5 : ∀ w1 q p, Dsk w1 (fun k => w.heap.size ≤ k) 6 q p m4 → Below w.heap.size w w1 → Calls Try.prog 11 #[.pointer (some ⟨q, 0, none⟩), .string ⟨#[97]⟩] w1 fun e w' => ∃ A C, e = .returned (.tuple #[.slice A 2 C, .int .i64 0]) ∧ (∀ w2, Below w'.heap.size w' w2 → (convert 22 9 (.slice A 2 C)).run Try.prog w2 = .ok (.string ⟨#[0, 121]⟩) w2) ∧ Dsk w' (fun k => w.heap.size ≤ k) 6 q p m4 ∧ Below w.heap.size w w' := fun w1 q p h b => by
    refine (Read_d h kA (by decide)).mono ?_
    rw [read4]
    rintro e w2 ⟨A, C, rfl, o, b2⟩
    exact ⟨A, C, rfl, fun w3 b3 => conv_kb (o.rd.below b3), h.below b2, b.trans (b2.mono b.size)⟩
  have P6 : ∀ w1 q p, Dsk w1 (fun k => w.heap.size ≤ k) 6 q p m4 → Below w.heap.size w w1 → Calls Try.prog 20 #[.pointer (some ⟨q, 0, none⟩)] w1 fun e w' => e = .returned (.int .i64 2) ∧ Dsk w' (fun k => w.heap.size ≤ k) 6 q p m4 ∧ Below w.heap.size w w' := fun w1 q p h b => by
    refine (Used_d h).mono ?_
    rw [used4]
    rintro e w2 ⟨rfl, b2⟩
    exact ⟨rfl, h.below b2, b.trans (b2.mono b.size)⟩
  have P7 : ∀ w1 q p, Dsk w1 (fun k => w.heap.size ≤ k) 6 q p m4 → Below w.heap.size w w1 → Calls Try.prog 21 #[.pointer (some ⟨q, 0, none⟩)] w1 fun e w' => e = .returned (.int .i64 98) ∧ Below w.heap.size w w' := fun w1 q p h b => by
    refine (Free_d h).mono ?_
    rw [used4]
    rintro e w2 ⟨rfl, b2⟩
    exact ⟨rfl, b.trans (b2.mono b.size)⟩
  clear lit hTl wide
  have kc := fun (w : World) (C : Array Value) (n c : Nat) => Lib.run_convert_bytes_const (P := Try.prog) w 22 5 C n c Try.underlying22 Try.underlying5
  have t2 := True.intro
  go_enter Try.func23, Try.ntmps23
  go_wp2_with (first
    | (go_at_call 24; refine hN.mono ?_; rintro e w1 ⟨q, p, rfl, h1, b1⟩; clear hN)
    | (go_at_call 13; refine (P1 w1 q p h1 b1).mono ?_; rintro e w2 ⟨rfl, h2, b2⟩; clear P1)
    | (clear t2; go_at_call 14; refine (P2 w2 q p h2 b2).mono ?_; rintro e w3 ⟨rfl, h3, b3⟩; clear P2)
    | (go_at_call 14; refine (P3 w3 q p h3 b3).mono ?_; rintro e w4 ⟨rfl, h4, b4⟩; clear P3)
    | (go_at_call 10; refine (P4 w4 q p h4 b4).mono ?_; rintro e w5 ⟨rfl, h5, b5⟩; clear P4)
    | (go_at_call 11; refine (P5 w5 q p h5 b5).mono ?_; rintro e w6 ⟨A6, C6, rfl, cv6, h6, b6⟩; have cv60 := cv6 w6 (Below.refl _ _); clear P5)
    | (go_at_call 12; refine (num_is _ _).mono ?_; rintro e w0 ⟨rfl, hw0⟩; have hw0 := hw0.symm; subst hw0)
    | (go_at_call 20; refine (P6 w6 q p h6 b6).mono ?_; rintro e w7 ⟨rfl, h7, b7⟩; clear P6)
    | (go_at_call 21; refine (P7 w7 q p h7 b7).mono ?_; rintro e w8 ⟨rfl, b8⟩; clear P7))
  go_ret
  exact ⟨rfl, b8⟩
end Go.Proofs.Ytjpneohachkheaa
