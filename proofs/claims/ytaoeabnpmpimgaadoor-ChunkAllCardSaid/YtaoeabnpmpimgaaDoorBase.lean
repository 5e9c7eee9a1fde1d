/-
  Plain facts on bytes and memory, over any program in which type 5 is uint8, type 9 string, type 66 []uint8. Conditions: those that each theorem names.
-/
import Derived.Test.YtaoeabnpmpimgaaDoorText
import Derived.Handy
import Derived.Below
import Derived.ProofKit
import Derived.OpenShut
import Derived.SizedLaws
import Derived.ChangeSame
import Derived.WalkLawsBesides
import Derived.WalkSpells
import Derived.OwnWalk
import Derived.Lib.AppendStr
import Derived.Maps.AppendAt
import Derived.Laws.BytesString
import Derived.Laws.BytesArg
import Derived.Laws.IdiomStrings
import Derived.Laws.BitsAllLaws
import Derived.Laws.Bits128
namespace Go.Icz
open Go.RowKit

/-- What is asked of a program: three types, and the element's row of the table. -/
structure Std (P : Program) : Prop where
  u45 : P.underlying 66 = some (.slice 5)
  u5 : P.underlying 5 = some (.int .u8)
  u9 : P.underlying 9 = some .string
  i5 : (P.info? 5).map (fun i => (i.zero, i.size, i.bytes)) = some (some (.int .u8 0), 1, 1)

/-- Bytes as memory's cells. -/
def cellsB (l : List Nat) : List Value := l.map fun n : Nat => Value.int .u8 (n : Int)
theorem cellsB_len (l : List Nat) : (cellsB l).length = l.length := by simp [cellsB]
theorem cellsB_app (l m : List Nat) : cellsB (l ++ m) = cellsB l ++ cellsB m := by simp [cellsB]
theorem cellsB_one (l : List Nat) : ∀ u ∈ cellsB l, u.oneCell' = true := by
  intro u hu
  simp only [cellsB, List.mem_map] at hu
  obtain ⟨n, _, rfl⟩ := hu
  rfl
theorem cellsB_get {l : List Nat} {j : Nat} {u : Value} (h : (cellsB l)[j]? = some u) : ∃ hj : j < l.length, u = .int .u8 (l[j] : Int) := by
  simp only [cellsB, List.getElem?_map] at h
  rcases Nat.lt_or_ge j l.length with hj | hj
  · rw [List.getElem?_eq_getElem hj] at h
    simp at h
    exact ⟨hj, h.symm⟩
  · rw [List.getElem?_eq_none hj] at h
    simp at h

/-- The slice v, made by the call itself in a block from B on, holds just the bytes l. -/
def Own (w : World) (B : Nat) (v : Value) (l : List Nat) : Prop := w.ownsRow B 5 1 v l.length (cellsB l)
theorem Own.nil (w : World) (B : Nat) : Own w B (.slice none 0 0) [] := World.ownsRow_nil w B 5 1
theorem Own.alloc {w : World} {B : Nat} {v : Value} {l : List Nat} (h : Own w B v l) (o : Obj) : Own (w.alloc o) B v l := World.ownsRow.alloc h o
theorem Own.below {w w' : World} {B : Nat} {v : Value} {l : List Nat} (h : Own w B v l) (hb : Below w.heap.size w w') : Own w' B v l := by
  refine World.ownsRow.kept (row := none) h ⟨hb.os, hb.tape, hb.output, hb.size, fun k hk _ => hb.block k hk⟩ ?_
  cases hv : v.ownBlock <;> simp
theorem Own.mono {w : World} {B B' : Nat} {v : Value} {l : List Nat} (h : Own w B v l) (hB : B' ≤ B) : Own w B' v l := by
  refine ⟨h.1, ?_⟩
  rcases h.2 with h | ⟨g, cap, cur, hv, hg, r⟩
  · exact .inl h
  · exact .inr ⟨g, cap, cur, hv, Nat.le_trans hB hg, r⟩

/-- The slice v reads as the bytes l. -/
def Rd (w : World) (v : Value) (l : List Nat) : Prop :=
  ∃ A c, v = .slice A l.length c ∧ l.length ≤ c ∧ (0 < l.length → ∃ b off, A = some ⟨b, off, none⟩ ∧ b < w.heap.size ∧ ∀ j (hj : j < l.length), w.cell? ⟨b, off + j, none⟩ = some (.int .u8 (l[j] : Int)))
theorem Rd.nil (w : World) : Rd w (.slice none 0 0) [] := ⟨none, 0, rfl, by simp, fun h => absurd h (by simp)⟩
theorem Rd.below {w w' : World} {v : Value} {l : List Nat} (h : Rd w v l) (hb : Below w.heap.size w w') : Rd w' v l := by
  obtain ⟨A, c, hv, hc, hr⟩ := h
  refine ⟨A, c, hv, hc, fun h0 => ?_⟩
  obtain ⟨b, off, hA, hlt, hcell⟩ := hr h0
  exact ⟨b, off, hA, Nat.lt_of_lt_of_le hlt hb.size, fun j hj => (hb.cell (p := ⟨b, off + j, none⟩) hlt).trans (hcell j hj)⟩
theorem Own.rd {w : World} {B : Nat} {v : Value} {l : List Nat} (h : Own w B v l) : Rd w v l := by
  rcases h.2 with ⟨hv, hn⟩ | ⟨g, cap, cur, hv, hg, hh, hnc, r⟩
  · exact ⟨none, 0, by rw [hv, hn], by omega, fun h0 => absurd hn (by omega)⟩
  · refine ⟨_, cap, hv, hnc, fun _ => ⟨g, 0, rfl, (Array.getElem?_eq_some_iff.1 hh).1, fun j hj => ?_⟩⟩
    rw [← add_flat]
    refine World.ownsRow.cells h (g := g) (by rw [hv]; rfl) j _ ?_
    simp [cellsB, hj]

theorem Own.made (w : World) {B : Nat} (hB : B ≤ w.heap.size) : Own (w.alloc (.cells #[] 5)) B (.slice (some ⟨w.heap.size, 0, none⟩) 0 0) [] :=
  World.ownsRow_made w #[] 0 hB (by decide) rfl
theorem Own.form {w : World} {B : Nat} {v : Value} {l : List Nat} (h : Own w B v l) (hl : 0 < l.length) :
    ∃ g cap, v = .slice (some ⟨g, 0, none⟩) l.length cap ∧ B ≤ g ∧ g < w.heap.size ∧ l.length ≤ cap ∧ ∀ j (hj : j < l.length), w.cell? ⟨g, j, none⟩ = some (.int .u8 (l[j] : Int)) := by
  rcases h.2 with ⟨_, hn⟩ | ⟨g, cap, cur, hv, hg, hh, hnc, r⟩
  · omega
  · refine ⟨g, cap, hv, hg, (Array.getElem?_eq_some_iff.1 hh).1, hnc, fun j hj => ?_⟩
    have e := add_flat g 0 j
    rw [Nat.zero_add] at e
    rw [← e]
    refine World.ownsRow.cells h (g := g) (by rw [hv]; rfl) j _ ?_
    simp [cellsB, hj]
theorem Rd.two (w : World) (a b : Nat) : Rd (w.alloc (.cells #[.int .u8 (a : Int), .int .u8 (b : Int)] 5)) (.slice (some ⟨w.heap.size, 0, none⟩) 2 2) [a, b] := by
  have h := heap_alloc_new w (.cells #[.int .u8 (a : Int), .int .u8 (b : Int)] 5)
  refine ⟨_, 2, rfl, by simp, fun _ => ⟨w.heap.size, 0, rfl, by simp, fun j hj => ?_⟩⟩
  rw [cell_of_row _ _ _ _ _ _ h]
  match j, hj with
  | 0, _ => rfl
  | 1, _ => rfl

theorem Own.one (w : World) {B : Nat} (a : Nat) (hB : B ≤ w.heap.size) : Own (w.alloc (.cells #[.int .u8 (a : Int)] 5)) B (.slice (some ⟨w.heap.size, 0, none⟩) 1 1) [a] :=
  World.ownsRow_lit w #[.int .u8 (a : Int)] 1 hB (by decide) rfl
theorem Rd.four (w : World) (a b c d : Nat) : Rd (w.alloc (.cells #[.int .u8 (a : Int), .int .u8 (b : Int), .int .u8 (c : Int), .int .u8 (d : Int)] 5)) (.slice (some ⟨w.heap.size, 0, none⟩) 4 4) [a, b, c, d] := by
  have h := heap_alloc_new w (.cells #[.int .u8 (a : Int), .int .u8 (b : Int), .int .u8 (c : Int), .int .u8 (d : Int)] 5)
  refine ⟨_, 4, rfl, by simp, fun _ => ⟨w.heap.size, 0, rfl, by simp, fun j hj => ?_⟩⟩
  rw [cell_of_row _ _ _ _ _ _ h]
  match j, hj with
  | 0, _ => rfl
  | 1, _ => rfl
  | 2, _ => rfl
  | 3, _ => rfl
theorem Rd.alloc {w : World} {v : Value} {l : List Nat} (h : Rd w v l) (o : Obj) : Rd (w.alloc o) v l := h.below ((Below.refl _ _).alloc (Nat.le_refl _) _)
/-- Lent bytes: marked room behind them, in a block of the call's own. -/
def Lt (w : World) (B : Nat) (v : Value) (l : List Nat) : Prop :=
  ∃ g cap, v = .slice (some ⟨g, 0, none⟩) l.length cap ∧ B ≤ g ∧ g < w.heap.size ∧ l.length + 2 ≤ cap ∧ ∀ j (hj : j < (l ++ [77, 78]).length), w.cell? ⟨g, j, none⟩ = some (.int .u8 ((l ++ [77, 78])[j] : Int))
theorem Lt.rd {w : World} {B : Nat} {v : Value} {l : List Nat} (h : Lt w B v l) : Rd w v l := by
  obtain ⟨g, cap, hv, hg, hlt, hcap, hc⟩ := h
  refine ⟨_, cap, hv, by omega, fun _ => ⟨g, 0, rfl, hlt, fun j hj => ?_⟩⟩
  have := hc j (by simp; omega)
  rw [List.getElem_append_left hj] at this
  rw [Nat.zero_add]
  exact this
theorem Lt.below {w w' : World} {B : Nat} {v : Value} {l : List Nat} (h : Lt w B v l) (hb : Below w.heap.size w w') : Lt w' B v l := by
  obtain ⟨g, cap, hv, hg, hlt, hcap, hc⟩ := h
  exact ⟨g, cap, hv, hg, Nat.lt_of_lt_of_le hlt hb.size, hcap, fun j hj => (hb.cell (p := ⟨g, j, none⟩) hlt).trans (hc j hj)⟩

/-- Bytes as a string. -/
def str (l : List Nat) : ByteArray := ⟨(l.map fun n : Nat => UInt8.ofNat n).toArray⟩
theorem conv_rd {P : Program} (S : Std P) {w : World} {v : Value} {l : List Nat} (h : Rd w v l) : (convert 66 9 v).run P w = .ok (.string (str l)) w := by
  obtain ⟨A, c, rfl, hc, hr⟩ := h
  rcases Nat.eq_zero_or_pos l.length with h0 | h0
  · have hl : l = [] := List.eq_nil_of_length_eq_zero h0
    subst hl
    rcases A with _ | ad
    · exact run_convert_bytes_nil w 66 5 S.u45 S.u5 _ _ 9 S.u9
    · rw [run_convert_bytes_string w 66 9 5 _ _ _ S.u45 S.u5 S.u9]
      exact run_bytesToString w ad 0 c [] (by simp [loadCells, loadCellsFrom])
  · obtain ⟨b, off, rfl, _, hcell⟩ := hr h0
    rw [run_convert_bytes_string w 66 9 5 _ _ _ S.u45 S.u5 S.u9]
    have hl := run_loadCells_list (P := P) w ⟨b, off, none⟩ ((l.map fun n : Nat => (n : Int)).map (Value.int .u8)) (fun j u hj => by
      have hj' : j < l.length := by
        have := (List.getElem?_eq_some_iff.1 hj).1
        simpa using this
      rw [add_flat, hcell j hj']
      simp [List.getElem?_eq_getElem hj'] at hj
      rw [← hj])
    simp only [List.length_map] at hl
    rw [run_bytesToString w _ l.length c _ hl, foldl_push_bytes]
    simp [str, ByteArray.empty, ByteArray.emptyWithCapacity, Function.comp_def]
    rfl

/-- A string's bytes. -/
def nats (s : ByteArray) : List Nat := s.data.toList.map UInt8.toNat
theorem nats_len (s : ByteArray) : (nats s).length = s.size := by rw [nats, List.length_map, Array.length_toList]; rfl
theorem str_nats (s : ByteArray) : str (nats s) = s := by
  unfold str nats
  rw [List.map_map]
  have : (fun n : Nat => UInt8.ofNat n) ∘ UInt8.toNat = id := by funext x; exact UInt8.ofNat_toNat
  rw [this]
  simp
theorem nats_lt (s : ByteArray) : ∀ n ∈ nats s, n < 256 := by
  intro n hn
  simp only [nats, List.mem_map] at hn
  obtain ⟨b, _, rfl⟩ := hn
  exact b.toNat_lt
theorem cellsB_nats (s : ByteArray) : cellsB (nats s) = Lib.strCells s := by simp [cellsB, nats, Lib.strCells]
theorem nats_str (l : List Nat) (h : ∀ n ∈ l, n < 256) : nats (str l) = l := by
  unfold nats str
  simp only [List.map_map]
  have : ∀ n ∈ l, (UInt8.toNat ∘ fun n : Nat => UInt8.ofNat n) n = id n := by
    intro n hn
    have := h n hn
    simp; omega
  rw [List.map_congr_left this]
  simp

/-- Seven bits a byte, the lowest first. -/
def num (n : Nat) : List Nat := if n < 128 then [n] else (n % 128 + 128) :: num (n / 128)
termination_by n
decreasing_by omega
theorem num_lo {n : Nat} (h : n < 128) : num n = [n] := by rw [num, if_pos h]
theorem num_hi {n : Nat} (h : ¬ n < 128) : num n = (n % 128 + 128) :: num (n / 128) := by rw [num, if_neg h]
theorem num_len : ∀ (m n : Nat), n < 128 ^ (m + 1) → (num n).length ≤ m + 1
  | 0, n, h => by rw [num_lo (by simpa using h)]; simp
  | m + 1, n, h => by
    by_cases h1 : n < 128
    · rw [num_lo h1]; simp
    · rw [num_hi h1]
      have h2 : n / 128 < 128 ^ (m + 1) := by
        rw [Nat.div_lt_iff_lt_mul (by omega)]
        rw [Nat.pow_succ] at h
        exact h
      have := num_len m _ h2
      simp
      omega
theorem num_pos (n : Nat) : 0 < (num n).length := by
  by_cases h1 : n < 128
  · rw [num_lo h1]; simp
  · rw [num_hi h1]; simp
theorem num_len8 {n : Nat} (h : n < 72057594037927936) : (num n).length ≤ 8 := num_len 7 n (by simpa using h)
theorem num_lt : ∀ n, ∀ b ∈ num n, b < 256 := by
  intro n
  induction n using Nat.strongRecOn with
  | _ n ih =>
    by_cases h1 : n < 128
    · rw [num_lo h1]; intro b hb; simp at hb; omega
    · rw [num_hi h1]
      intro b hb
      rcases List.mem_cons.1 hb with rfl | hb
      · omega
      · exact ih _ (by omega) b hb
theorem or128 (k : Nat) : bits .or .u8 ((k : Int) % 256) 128 = ((k % 128 + 128 : Nat) : Int) := by
  have h1 : ((k : Int) % 256) = ((k % 256 : Nat) : Int) := by omega
  rw [h1]
  have h2 := u8_or_nat (k % 256) 128 (by omega) (by omega)
  have h3 : ∀ x : Fin 256, x.val ||| 128 = x.val % 128 + 128 := by decide +kernel
  have h4 := h3 ⟨k % 256, by omega⟩
  simp only at h4
  rw [h4] at h2
  rw [show k % 128 = k % 256 % 128 by omega]
  exact h2

section
variable {P : Program} (S : Std P)
include S

/-- 'append(v, x)', one byte x: the new row. -/
theorem wp_app1 {ops : Array Oper} {rest : List Oper} {o : Oper} {a : Act} {Q : Exit → Act → World → Prop} {w : World} (hgd : o.guard = none) (s x : Operand)
    (ho : o.op = .call { callee := .builtin .append, args := #[s, x], argTypes := #[66, 66] })
    (B : Nat) (v : Value) (l : List Nat) (b : Nat) (hs : a.eval s = v) (hown : Own w B v l) (hx : a.eval x = .slice (some ⟨w.heap.size, 0, none⟩) 1 1)
    (hlen : l.length ≤ 140737488355327) (hB : B ≤ w.heap.size)
    (h : ∀ v' w', Own w' B v' (l ++ [b]) → Below B w w' → v' ≠ .slice none 0 0 → wpList P ops Q rest (a.put o.dst v') w') :
    wpList P ops Q (o :: rest) a (w.alloc (.cells #[.int .u8 (b : Int)] 5)) := by
  obtain ⟨i0, hi, hz0, hz1, hz2⟩ := info_parts S.i5
  refine wpList_append_own _ hgd s x 66 ho B 5 i0 (.int .u8 0) 1 1 S.u45 hi hz0 hz1 hz2 rfl (by decide) v l.length (cellsB l) hs (hown.alloc _) ⟨w.heap.size, 0, none⟩ 1 1 [.int .u8 (b : Int)] hx rfl ?_ ?_ ?_ ?_ ?_ ?_
  · intro j u hj
    match j, hj with
    | 0, hj =>
      simp at hj
      subst hj
      simp [Addr.add]
  · intro u hu
    simp at hu
    subst hu
    rfl
  · unfold maxLen; omega
  · omega
  · simp; omega
  · intro v' w' h1 h2 h3
    refine h v' w' (by unfold Own; rw [cellsB_app, List.length_append]; exact h1) ?_ (fun e => by have := (h3.1 e).2; omega)
    refine ((Below.refl B w).alloc hB _).grown h2 (by simp; omega) (fun k hk => ?_)
    exact (World.ownsRow.lt hown k hk).1

/-- 'append(v, x...)', x bytes that can be read. -/
theorem wp_appR {ops : Array Oper} {rest : List Oper} {o : Oper} {a : Act} {Q : Exit → Act → World → Prop} {w : World} (hgd : o.guard = none) (s x : Operand)
    (ho : o.op = .call { callee := .builtin .append, args := #[s, x], argTypes := #[66, 66] })
    (B : Nat) (v u : Value) (l m : List Nat) (hs : a.eval s = v) (hown : Own w B v l) (hx : a.eval x = u) (hr : Rd w u m)
    (hlen : l.length + m.length ≤ 140737488355328) (hB : B ≤ w.heap.size)
    (h : ∀ v' w', Own w' B v' (l ++ m) → Below B w w' → wpList P ops Q rest (a.put o.dst v') w') :
    wpList P ops Q (o :: rest) a w := by
  obtain ⟨i0, hi, hz0, hz1, hz2⟩ := info_parts S.i5
  obtain ⟨A, c, rfl, hc, hcell⟩ := hr
  rcases A with _ | ad
  · have hm : m = [] := by
      rcases Nat.eq_zero_or_pos m.length with h0 | h0
      · exact List.eq_nil_of_length_eq_zero h0
      · obtain ⟨b, off, e, _⟩ := hcell h0
        cases e
    subst hm
    refine wpList_plain hgd fun K hK => ?_
    unfold Oper.wp execOp
    have hrun : (Builtin.append_ #[66, 66] o.type #[v, .slice none 0 c]).run P w = .ok v w := by
      rcases hown.2 with ⟨rfl, _⟩ | ⟨g, cap, cur, rfl, _, _, hnc, _⟩
      · simp [Builtin.append_, run_underlying S.u45, sizeOf, typeInfo, hi, Builtin.lenOf, Builtin.firstCells]
      · simp [Builtin.append_, run_underlying S.u45, sizeOf, typeInfo, hi, Builtin.lenOf, Builtin.firstCells, hnc, storeCells]
    simp only [ho, resolve, invoke, builtin, Sem.run_bind, Sem.run_pure, Result.andThen_ok, List.map_toArray, List.map_cons, List.map_nil, hs, hx, List.length_nil, hrun]
    exact hK _ _ (h v w (by simpa using hown) (Below.refl _ _))
  · refine wpList_append_own _ hgd s x 66 ho B 5 i0 (.int .u8 0) 1 1 S.u45 hi hz0 hz1 hz2 rfl (by decide) v l.length (cellsB l) hs hown ad m.length c (cellsB m) hx (by rw [cellsB_len]; omega) ?_ (cellsB_one m) ?_ ?_ hB ?_
    · intro j u hj
      obtain ⟨hj', rfl⟩ := cellsB_get hj
      obtain ⟨b, off, e, _, hc'⟩ := hcell (by omega)
      injection e with e
      subst e
      rw [add_flat]
      exact hc' j hj'
    · unfold maxLen; omega
    · omega
    · intro v' w' h1 h2 _
      exact h v' w' (by unfold Own; rw [cellsB_app, List.length_append]; exact h1) ((Below.refl B w).grown h2 hB (fun k hk => (World.ownsRow.lt hown k hk).1))

/-- 'append(v, s...)', s a string. -/
theorem wp_appS {ops : Array Oper} {rest : List Oper} {o : Oper} {a : Act} {Q : Exit → Act → World → Prop} {w : World} (hgd : o.guard = none) (s x : Operand)
    (ho : o.op = .call { callee := .builtin .append, args := #[s, x], argTypes := #[66, 9] })
    (B : Nat) (v : Value) (l : List Nat) (t : ByteArray) (hs : a.eval s = v) (hown : Own w B v l) (hx : a.eval x = .string t)
    (hlen : l.length + t.size ≤ 140737488355328) (hB : B ≤ w.heap.size)
    (h : ∀ v' w', Own w' B v' (l ++ nats t) → Below B w w' → wpList P ops Q rest (a.put o.dst v') w') :
    wpList P ops Q (o :: rest) a w := by
  obtain ⟨i0, hi, hz0, hz1, hz2⟩ := info_parts S.i5
  refine Lib.wpList_append_own_string w hgd s x 66 9 ho B 5 i0 S.u45 S.u9 hi hz0 hz1 hz2 v l.length (cellsB l) hs hown t hx (by unfold maxLen; omega) hlen hB ?_
  intro v' w' h1 h2 _
  refine h v' w' ?_ ((Below.refl B w).grown h2 hB (fun k hk => (World.ownsRow.lt hown k hk).1))
  unfold Own
  rw [cellsB_app, cellsB_nats, List.length_append, nats_len]
  exact h1
end

/-! A []byte that came in. -/
section
open Go.WideShapes Go.ChangeShapes
theorem open_rd {H : Type} {enc : TypeId × Value → H} {P : Program} (S : Std P) (hc : P.cellsOf 5 = 1) {W : World} {held : Bool} {a : Option Addr} {len cap : Nat} {d : DataW H} {p : List MemPlace}
    (h : DataW.Trod enc P W 0 (fun _ => true) held 66 (.slice a len cap) d p) :
    ∃ l : List Nat, l.length = len ∧ Rd W (.slice a len cap) l ∧ (∀ c ∈ l, c < 256) ∧ ((d = .nil ∧ l = []) ∨ ∃ el sp, d = .slice el sp ∧ el.length + sp.length = cap ∧ len ≤ cap) := by
  obtain ⟨fuel, hf⟩ := h
  rcases open_ints S.u45 S.u5 hc hf with ⟨hcs, hx⟩ | ⟨x, l, c, zs, hcs, _, hl, hm, hz, hx, hcell, hwz⟩
  · simp [Value.cells] at hcs
    obtain ⟨rfl, rfl, rfl⟩ := hcs
    simp only [Prod.mk.injEq] at hx
    exact ⟨[], rfl, Rd.nil W, by simp, .inl ⟨hx.1, rfl⟩⟩
  · simp [Value.cells] at hcs
    obtain ⟨rfl, rfl, rfl⟩ := hcs
    simp only [Prod.mk.injEq] at hx
    simp only [if_true] at hz
    have hb : ∀ n ∈ zs, 0 ≤ n ∧ n < 256 := fun n hn => by
      have := bounds_u8 (hwz n hn)
      omega
    have hlen : ((zs.take len).map Int.toNat).length = len := by simp; omega
    refine ⟨(zs.take len).map Int.toNat, hlen, ?_, ?_, .inr ⟨_, _, hx.1, by simp [lits]; omega, hl⟩⟩
    · refine ⟨some x, cap, by rw [hlen], by omega, fun h0 => ?_⟩
      rw [hlen] at h0
      obtain ⟨b, off, rfl, hc'⟩ := ints_at hcell (by omega)
      refine ⟨b, off, rfl, World.block_lt_of_cell? W ⟨b, off + 0, none⟩ (hc' 0 (by omega)), fun j hj => ?_⟩
      rw [hlen] at hj
      have h1 := hc' j (by omega)
      rw [h1]
      have h2 := hb zs[j] (List.getElem_mem (by omega))
      simp [List.getElem?_eq_getElem (show j < zs.length by omega)]
      omega
    · intro c hc'
      simp only [List.mem_map] at hc'
      obtain ⟨n, hn, rfl⟩ := hc'
      have := hb n (List.mem_of_mem_take hn)
      omega
end

/-! What a row owes behind a call that only made new memory: nothing that was there has turned. -/
section
open Go.WideShapes Go.ChangeShapes
theorem post_below {H : Type} {enc : TypeId × Value → H} {P : Program} {f : Func} {s : ChangeSpec} {apart fresh handsOn again : Bool} {W W' : World} {args : Array Value} {v : Value} {ds gs : List (DataW H)} {before pa pv : List MemPlace}
    (hW : DataW.Whole enc P f.params.toList s.vars apart W args.toList ds gs before)
    (hres : ∀ (b : Nat) (sp : Nat → Bool) (hd : Bool), DataW.TrodAll enc P W' b sp hd f.resultTypes.toList (v.resultList f.resultTypes.size) (s.fn H (ds ++ gs)).results [])
    (hargs : ∀ sp : Nat → Bool, (∀ p ∈ before, sp p.block = true) → DataW.TrodAll enc P W' 0 sp true f.params.toList args.toList (s.fn H (ds ++ gs)).args pa)
    (hvars : ∀ sp : Nat → Bool, (∀ p ∈ before, sp p.block = true) → DataW.TrodVars enc P W' sp s.vars (s.fn H (ds ++ gs)).vars pv)
    (hps : before = pa ++ pv) (hb : Below W.heap.size W W')
    (hok : ∀ (j : Nat) (t : TypeId) (r : Value), f.resultTypes[j]? = some t → (v.resultList f.resultTypes.size)[j]? = some r → Value.okWide P W' .any 0 t r) :
    s.post enc P f apart fresh handsOn again W args v W' := by
  subst hps
  have hin : ∀ p ∈ pa ++ pv, p.block < W.heap.size := fun p hp => hW.lt p hp
  have hsp : ∀ p ∈ pa ++ pv, decide (p.block < W.heap.size) = true := fun p hp => decide_eq_true (hin p hp)
  refine ⟨ds, gs, pa ++ pv, [], pa, pv, hW, hres _ _ _, hargs (fun b => decide (b < W.heap.size)) hsp, hvars (fun b => decide (b < W.heap.size)) hsp, ?_, fun _ => ?_⟩
  · refine World.keptBut_mono (fun p hp => ⟨hp, ?_⟩) (hb.frame (fun p => p ∈ pa ++ pv))
    rcases List.mem_append.1 hp with h | h
    · simp [h]
    · simp [h]
  · obtain ⟨_, _, _, _, _, hz, hn⟩ := hW
    refine ⟨hok, _, _, ([] ++ pa) ++ pv, ⟨[] ++ pa, pv, trodAll_append (hargs _ (fun _ _ => rfl)) (hres _ _ _), hvars _ (fun _ _ => rfl), rfl, fun b off hp => ?_, fun ha => hn ha⟩, fun p hp _ => hp⟩
    have hp' : MemPlace.cell b off ∈ pa ++ pv := hp
    exact (hb.frozen (p := ⟨b, off, none⟩) (hin _ hp')).trans (hz b off hp')
end
end Go.Icz
