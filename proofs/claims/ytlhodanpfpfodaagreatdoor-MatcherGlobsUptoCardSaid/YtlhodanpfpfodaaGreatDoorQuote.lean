/-
  What label.Quote answers: the quoted text. Condition: the text has at most 2^44 bytes; the tables of package utf8 are in place.
-/
import Derived.Test.YtlhodanpfpfodaaGreatDoorQuoted
import Derived.Test.YtlhodanpfpfodaaGreatDoorName
import Derived.BigCall
namespace Go.Proofs.YtlhodanpfpfodaaGreatDoor
open Go.RowKit Go.Icz

theorem builder_below {T e : TypeId} {B b : Nat} {bs : List Value} {w w' : World} (h : Lib.IsBuilderF T e B b bs w) (hb : Below w.heap.size w w') : Lib.IsBuilderF T e B b bs w' := by
  have one : ∀ p, Lib.BuilderAtF T e B b p bs w → Lib.BuilderAtF T e B b p bs w' := by
    intro p h
    have hlt := h.lt
    obtain ⟨hB, v, hc, hown, hne⟩ := h
    exact ⟨hB, v, (hb.block b hlt).trans hc, hown.kept (row := none) ⟨hb.os, hb.tape, hb.output, hb.size, fun k hk _ => hb.block k hk⟩ (by cases hv : v.ownBlock <;> simp), hne⟩
  exact h.elim (fun x => .inl (one _ x)) (fun x => .inr (one _ x))
theorem strCells_mk (l : B8) : Lib.strCells ⟨l.toArray⟩ = Lib.byteCells l := by simp [Lib.strCells, Lib.byteCells]
/-- What a builder is behind a write. -/
def Wrote (B : Nat) (acc l : B8) (w w' : World) : Prop := Lib.IsBuilderF 81 5 B B (Lib.byteCells (acc ++ l)) w' ∧ Below B w w' ∧ Lib.OthersKept 5 (some B) w w'
theorem writes (B : Nat) (acc l : B8) (w : World) (h : Lib.IsBuilderF 81 5 B B (Lib.byteCells acc) w) (hlen : acc.length + l.length ≤ 140737488355328) (hBw : B ≤ w.heap.size) :
    Calls Tryz.prog 42 #[.pointer (some ⟨B, 0, none⟩), .string ⟨l.toArray⟩] w fun e w' => e = .returned (.tuple #[.int .i64 l.length, .nilIface]) ∧ Wrote B acc l w w' := by
  refine (Tryz.Builder_WriteString_k B B (Lib.byteCells acc) ⟨l.toArray⟩ w h (by rw [Lib.byteCells_length, Lib.size_mk]; exact hlen) hBw).mono ?_
  rintro e w' ⟨rfl, h1, h2, h3⟩
  rw [strCells_mk, ← Lib.byteCells_append] at h1
  exact ⟨by rw [Lib.size_mk], .inr h1, h2, h3⟩
theorem writesRune (B : Nat) (acc : B8) (r : Nat) (hr : r ≤ 1114111) (w : World) (h : Lib.IsBuilderF 81 5 B B (Lib.byteCells acc) w) (hlen : acc.length + 4 ≤ 140737488355328) (hBw : B ≤ w.heap.size) :
    Calls Tryz.prog 109 #[.pointer (some ⟨B, 0, none⟩), .int .i32 r] w fun e w' => e = .returned (.tuple #[.int .i64 (Lib.encodeRune (r : Int)).length, .nilIface]) ∧ Wrote B acc (Lib.encodeRune (r : Int)) w w' := by
  refine (Tryz.Builder_WriteRune_k B B (Lib.byteCells acc) r (by omega) (by omega) w h (by rw [Lib.byteCells_length]; exact hlen) hBw).mono ?_
  rintro e w' ⟨rfl, h1, h2, h3⟩
  rw [← Lib.byteCells_encodeRune, ← Lib.byteCells_append] at h1
  exact ⟨by rw [Lib.runeCells_length], .inr h1, h2, h3⟩

theorem Tabs.below {w w' : World} (h : Tabs w) (hb : Below w.heap.size w w') : Tabs w' := by
  have c : ∀ p v, w.cell? p = some v → w'.cell? p = some v := fun p v hc => (hb.cell (World.block_lt_of_cell? w p hc)).trans hc
  refine ⟨⟨fun k hk => c _ _ (h.utf8.1 k hk), fun i hi => ⟨c _ _ (h.utf8.2 i hi).1, c _ _ (h.utf8.2 i hi).2⟩⟩, c _ _ h.deb, h.err.below hb⟩

/-! The quoted text. -/
def qbodyF : Nat → B8 → B8
  | 0, _ => []
  | n + 1, l => if l = [] then [] else qr (Lib.decodeL l).1 ++ qbodyF n (l.drop (Lib.decodeL l).2)
def qbody (l : B8) : B8 := qbodyF l.length l
theorem qbodyF_nil : ∀ n, qbodyF n [] = []
  | 0 => rfl
  | n + 1 => by simp [qbodyF]
theorem qbodyF_fuel : ∀ (n m : Nat) (l : B8), l.length ≤ n → l.length ≤ m → qbodyF n l = qbodyF m l
  | 0, m, l, hn, _ => by
    have : l = [] := List.eq_nil_of_length_eq_zero (by omega)
    subst this
    rw [qbodyF_nil, qbodyF_nil]
  | n + 1, 0, l, _, hm => by
    have : l = [] := List.eq_nil_of_length_eq_zero (by omega)
    subst this
    rw [qbodyF_nil, qbodyF_nil]
  | n + 1, m + 1, l, hn, hm => by
    unfold qbodyF
    by_cases hne : l = []
    · simp [hne]
    · have hw := Lib.decodeL_width l
      have hl : 0 < l.length := List.length_pos_iff.2 hne
      rw [if_neg hne, if_neg hne, qbodyF_fuel n m (l.drop (Lib.decodeL l).2) (by rw [List.length_drop]; omega) (by rw [List.length_drop]; omega)]
theorem qbody_nil : qbody [] = [] := rfl
theorem qbody_step (l : B8) (hne : l ≠ []) : qbody l = qr (Lib.decodeL l).1 ++ qbody (l.drop (Lib.decodeL l).2) := by
  have hl : 0 < l.length := List.length_pos_iff.2 hne
  have hw := Lib.decodeL_width l
  obtain ⟨n, hn⟩ : ∃ n, l.length = n + 1 := ⟨l.length - 1, by omega⟩
  unfold qbody
  rw [hn]
  show (if l = [] then [] else _) = _
  rw [if_neg hne, qbodyF_fuel n (l.drop (Lib.decodeL l).2).length _ (by rw [List.length_drop]; omega) (Nat.le_refl _)]
def quoteS (l : B8) : B8 := if Lib.validD l then [34] ++ qbody l ++ [34] else []
theorem qr_len (r : Nat) : (qr r).length ≤ 6 := by
  unfold qr
  split
  · simp
  · split
    · simp
    · split
      · have := hexN_two (n := r) (by omega)
        simp
        omega
      · have := (Lib.encodeRuneZ_length (r : Int)).2
        simp [Lib.encodeRune]
        omega

set_option maxHeartbeats 1000000 in
set_option maxRecDepth 100000 in
theorem Quote_is (s : ByteArray) (w : World) (hs : s.size ≤ 17592186044416) (hT : Tabs w) :
    Calls Tryz.prog 43 #[.string s] w fun e w' => e = .returned (.string ⟨(quoteS s.data.toList).toArray⟩) ∧ Below w.heap.size w w' := by
  have hV := Tryz.utf8_ValidString s w (by omega) hT.utf8
  cases hv : Lib.validD s.data.toList with
  | false =>
    have HQ : Hid (quoteS s.data.toList = []) := hid (by simp [quoteS, hv])
    rw [hv] at hV
    clear hT
    go_enter Tryz.func43, Tryz.ntmps43
    go_wp2_with (go_at_call 85; refine hV.mono ?_; rintro e w' ⟨rfl, bel⟩)
    go_ret
    exact ⟨by rw [HQ.out]; rfl, bel⟩
  | true =>
    have HQ : Hid (quoteS s.data.toList = [34] ++ qbody s.data.toList ++ [34]) := hid (by simp [quoteS, hv])
    rw [hv] at hV
    go_enter Tryz.func43, Tryz.ntmps43
    go_wp2_with (go_at_call 85; refine hV.mono ?_; rintro e w0 ⟨rfl, bel0⟩; clear hV)
    have hT0 := hT.below bel0
    have hfr : Lib.IsBuilderF 81 5 w0.heap.size w0.heap.size (Lib.byteCells []) (w0.alloc (.cells #[.pointer none, .slice none 0 0] 81)) := Lib.IsBuilderF.of (Lib.fresh_isBuilder 81 5 w0)
    have hsz0 := bel0.size
    refine (writes w0.heap.size [] [34] _ hfr (by simp) (by simp)).mono ?_
    rintro e w1 ⟨rfl, h1, b1, k1⟩
    rw [List.nil_append] at h1
    have b1' : Below w0.heap.size w0 w1 := below_alloc (Nat.le_refl _) b1
    have hsz1 : w0.heap.size < w1.heap.size := Nat.lt_of_lt_of_le (by simp) b1.size
    clear hfr hT k1
    go_wp2
    go_loopw [] (fun wr => ∃ (pos : Nat) (acc : B8), Lib.IsBuilderF 81 5 w0.heap.size w0.heap.size (Lib.byteCells acc) wr ∧ wr.heap[w1.heap.size]? = some (.stringIter s pos) ∧ Below w0.heap.size w0 wr ∧
      Hid ([34] ++ qbody s.data.toList = acc ++ qbody (s.data.toList.drop pos)) ∧ acc.length ≤ 1 + 6 * pos ∧ pos ≤ s.size) (fun wr => s.size - wr.iterPos w1.heap.size)
    case atStart =>
      refine ⟨0, [34], h1.alloc _, World.iter_heap w1 s 0, b1'.alloc (by omega) _, hid (by simp), by simp, by omega⟩
    case round =>
      obtain ⟨pos, acc, hI, hit, hbw, HX, hal, hps⟩ := hrel
      have hsz : w1.heap.size < wr.heap.size := (Array.getElem?_eq_some_iff.1 hit).1
      by_cases hp : pos < s.size
      · have hnx : ∀ ty, (Instr.next (.pointer (some ⟨w1.heap.size, 0, none⟩)) true ty).run Tryz.prog wr = _ := fun ty => Lib.run_next_any_at wr w1.heap.size s pos ty hit hp
        have hwd := Lib.width_pos s pos
        have hdr := Lib.rune_le s pos
        have hne : s.data.toList.drop pos ≠ [] := by rw [drop_cons hp]; simp
        have hst := qbody_step _ hne
        have hdl := Lib.decodeL_le _ hne
        rw [Lib.decodeL_drop, List.drop_drop] at hst
        rw [Lib.decodeL_drop, List.length_drop, size_len] at hdl
        have hI2 := hI.iterAt hit (pos + (Utf8.decode s pos).2)
        have hit2 := Lib.iterAt_heap wr w1.heap.size s pos (pos + (Utf8.decode s pos).2) hit
        have hbw2 := Lib.below_iterAt hbw (k := w1.heap.size) (by omega) s (pos + (Utf8.decode s pos).2)
        have hTr2 := hT0.below hbw2
        generalize (Utf8.decode s pos).1 = r at *
        generalize (Utf8.decode s pos).2 = k at *
        generalize hw2 : wr.iterAt w1.heap.size s (pos + k) = w2 at *
        have hsz2 : w1.heap.size < w2.heap.size := (Array.getElem?_eq_some_iff.1 hit2).1
        have hql := qr_len r
        go_wp2_with (first | (go_at_call 86; refine (quoted_is r hdr _ hTr2.deb).mono ?_; rintro e w3 ⟨rfl, b3⟩) | (go_at_call 42; refine (writes w0.heap.size acc (qr r) _ (builder_below hI2 b3) (by omega) (by have := b3.size; omega)).mono ?_; rintro e w4 ⟨rfl, h4, b4, k4⟩))
        go_roundw
        case rel =>
          refine ⟨pos + k, acc ++ qr r, h4, k4.iter ((b3.block _ hsz2).trans hit2) (by omega), (hbw2.trans (b3.mono (by omega))).trans b4, hid ?_, by simp; omega, by omega⟩
          rw [HX.out, hst]
          simp
        case measure =>
          simp only [World.iterPos, k4.iter ((b3.block _ hsz2).trans hit2) (by omega), hit]
          omega
      · have hnx : ∀ ty, (Instr.next (.pointer (some ⟨w1.heap.size, 0, none⟩)) true ty).run Tryz.prog wr = _ := fun ty => Lib.run_next_end_at wr w1.heap.size s pos ty hit hp
        go_wp2_with (first | (go_at_call 42; refine (writes w0.heap.size acc [34] _ hI (by simp; omega) (by omega)).mono ?_; rintro e w4 ⟨rfl, h4, b4, k4⟩) | (go_at_call 44; refine (Tryz.Builder_String_any_k w0.heap.size w0.heap.size (acc ++ [34]) _ h4 (by have := b4.size; omega)).mono ?_; rintro e w5 ⟨rfl, _, b5, _⟩))
        go_ret
        have e := HX.out
        rw [drop_end hp, qbody_nil, List.append_nil] at e
        exact ⟨by rw [HQ.out, e]; rfl, bel0.trans (((hbw.trans b4).trans b5).mono (by omega))⟩
end Go.Proofs.YtlhodanpfpfodaaGreatDoor
