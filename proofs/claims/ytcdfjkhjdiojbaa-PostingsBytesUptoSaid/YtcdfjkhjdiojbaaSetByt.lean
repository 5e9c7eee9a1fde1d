/-
  What postings' Get and the reference's Bytes and Put answer. Conditions: the lists and bytes can be read; sizes as each theorem names.
-/
import Derived.Test.YtcdfjkhjdiojbaaSetRef2
import Derived.Test.YtcdfjkhjdiojbaaGetMath
import Derived.Test.YtcdfjkhjdiojbaaBare
namespace Go.Proofs.Ytcdfjkhjdiojbaa
open Go.RowKit Go.Icz
set_option maxHeartbeats 2000000 in
set_option maxRecDepth 100000 in
theorem R5Bytes_is (v : Value) (l : List Int) (w : World) (hR : RdI w v l) (h65 : l.length ≤ 65536) (hok : OkI l) : Calls Try.prog 31 #[v] w (Bare w (listB l)) := by
  obtain ⟨A, c, rfl, hc, hcell⟩ := hR
  have hNu := fun w1 => Bytes_any l.length w1 (by omega)
  have hnl := num_len8 (n := l.length) (by omega)
  have HOK := hid hok
  clear hok
  go_enter Try.func31, Try.ntmps31
  go_wp2_with (go_at_call 45; refine (hNu _).mono ?_; rintro e w1 ⟨v1, rfl, o1, b1⟩; clear hNu)
  go_loopw [3, 4] (fun bv iv wr => ∃ (i : Nat) (acc : List Nat), iv = .int .i64 i ∧ i ≤ l.length ∧ Own wr w.heap.size bv acc ∧ acc.length ≤ 8 + 8 * i ∧ Below w.heap.size w wr ∧ Hid (acc = num l.length ++ numsB (difs (-1) (l.take i)))) (fun _ iv _ => l.length - (intOf iv).toNat)
  case atStart => exact ⟨0, num l.length, rfl, by omega, o1, by omega, b1, hid (by simp [difs, numsB])⟩
  case round =>
    obtain ⟨i, acc, rfl, hi, ho, hacc, hb, HX⟩ := hrel
    have hbd : ∀ q, Below w.heap.size w (wr.drewN q) := fun q => ⟨hb.os, hb.tape, hb.output, hb.size, hb.block⟩
    by_cases hlt : i < l.length
    · obtain ⟨ba, oa, rfl, hba, hcl⟩ := hcell (by omega)
      have c0 := (hb.cell (p := ⟨ba, oa + i, none⟩) hba).trans (hcl i hlt)
      have hlt' : (i : Int) < (l.length : Int) := by omega
      have hrg := HOK.out.range hlt
      have hdt := difs_take l (-1) i hlt
      have hsz := hb.size
      by_cases h0 : 0 < i
      · have h0' : (0 : Int) < (i : Int) := by omega
        obtain ⟨k, hk⟩ : ∃ k, i = k + 1 := ⟨i - 1, by omega⟩
        have hkl : k < l.length := by omega
        have c1 := (hb.cell (p := ⟨ba, oa + k, none⟩) hba).trans (hcl k hkl)
        have hrs := HOK.out.rise (i := k) (j := i) (by omega) hlt
        have hrk := HOK.out.range hkl
        obtain ⟨m, hm⟩ : ∃ m : Nat, (m : Int) = l[i] - l[k] - 1 := ⟨(l[i] - l[k] - 1).toNat, by omega⟩
        have HX2 : Hid (acc ++ num m = num l.length ++ numsB (difs (-1) (l.take (i + 1)))) := hid (by
          rw [hdt, numsB_app, HX.out, List.append_assoc, if_neg (by omega), show i - 1 = k by omega]
          simp only [List.getD_eq_getElem?_getD, List.getElem?_eq_getElem hkl, Option.getD_some]
          rw [show (l[i] - l[k] - 1).toNat = m by omega]
          simp [numsB])
        have hNm := fun w1 => Bytes_any m w1 (by omega)
        have hml := num_len8 (n := m) (by omega)
        clear HX hcl hcell hdt
        generalize l[i] = x at *
        generalize l[k] = y at *
        have zk : (i : Int) - 1 = (k : Int) := by omega
        have zk0 : (0 : Int) ≤ (k : Int) := by omega
        have zkl : (k : Int) < (l.length : Int) := by omega
        have zw1 : IntKind.i64.wrap (x - y) = x - y := by rw [IntKind.wrap_i64]; omega
        have zw2 : IntKind.i64.wrap (x - y - 1) = (m : Int) := by rw [IntKind.wrap_i64]; omega
        have zw3 : IntKind.i64.wrap (k : Int) = (k : Int) := by rw [IntKind.wrap_i64]; omega
        have HK := hid hk
        have HM := hid hm
        clear hk hm
        generalize num m = t at *
        have e1 : acc.length + t.length ≤ 140737488355328 := by omega
        go_wp2_with fail
        go_quiet (fail)
        go_wp2_with (first
          | (go_at_call 45; refine (hNm _).mono ?_; rintro e w3 ⟨v3, rfl, o3, b3⟩; have ho3 := Own.below (w := wr.drewN nq) ho b3; have hb3 := (hbd nq).trans (b3.mono hsz); clear hNm ho)
          | (at_builtin; refine wp_appR std rfl (.tmp 32) (.tmp 34) rfl w.heap.size _ _ acc t rfl ho3 rfl o3.rd e1 hb3.size ?_; intro v4 w4 o4 b4; clear ho3)
          | fail)
        go_roundw
        case rel => exact ⟨i + 1, acc ++ t, by go_num, by omega, o4, by simp; omega, hb3.trans b4, HX2⟩
        case measure => simp [intOf]; omega
      · have h0' : ¬ (0 : Int) < (i : Int) := by omega
        obtain ⟨m, hm⟩ : ∃ m : Nat, (m : Int) = l[i] := ⟨(l[i]).toNat, by omega⟩
        have HX2 : Hid (acc ++ num m = num l.length ++ numsB (difs (-1) (l.take (i + 1)))) := hid (by
          rw [hdt, numsB_app, HX.out, List.append_assoc, if_pos (by omega)]
          rw [show (l[i] - -1 - 1).toNat = m by omega]
          simp [numsB])
        have hNm := fun w1 => Bytes_any m w1 (by omega)
        have hml := num_len8 (n := m) (by omega)
        rw [← hm] at c0
        clear HX hcl hcell hdt hm hrg
        generalize num m = t at *
        have e1 : acc.length + t.length ≤ 140737488355328 := by omega
        go_wp2_with (first
          | (go_at_call 45; refine (hNm _).mono ?_; rintro e w3 ⟨v3, rfl, o3, b3⟩; have ho3 := Own.below ho b3; have hb3 := hb.trans (b3.mono hsz); clear hNm ho)
          | (at_builtin; refine wp_appR std rfl (.tmp 32) (.tmp 34) rfl w.heap.size _ _ acc t rfl ho3 rfl o3.rd e1 hb3.size ?_; intro v4 w4 o4 b4; clear ho3)
          | fail)
        go_roundw
        case rel => exact ⟨i + 1, acc ++ t, by go_num, by omega, o4, by simp; omega, hb3.trans b4, HX2⟩
        case measure => simp [intOf]; omega
    · have hge : ¬ (i : Int) < (l.length : Int) := by omega
      have HE : Hid (listB l = acc) := hid (by rw [HX.out, List.take_of_length_le (by omega)]; rfl)
      clear hcell HX
      go_wp2_with fail
      go_ret
      exact ⟨_, rfl, by rw [HE.out]; exact ho, hb⟩
set_option maxRecDepth 100000 in
theorem R5Put_is (v : Value) (l : List Int) (w : World) (hR : RdI w v l) (hl : l.length ≤ 4611686018427387904) :
    Calls Try.prog 18 #[v] w (PutOut l w) := by
  have hRt := R5Right_is v l w hR hl
  have hR0 := hR
  obtain ⟨A, c, rfl, _, _⟩ := hR
  cases hr : rightI l with
  | false =>
    rw [hr] at hRt
    have HR := hid hr
    clear hr
    go_enter Try.func18, Try.ntmps18
    go_wp2_with (go_at_call 7; refine hRt.mono ?_; rintro e w1 ⟨rfl, b1⟩; clear hRt)
    go_ret2
    unfold PutOut
    rw [HR.out, if_neg (by decide), if_neg (by decide)]
    exact ⟨_, rfl, Rd.nil _, b1⟩
  | true =>
    rw [hr] at hRt
    have HR := hid hr
    have hok : l.length ≤ 65536 ∧ OkI l := by unfold rightI at hr; simpa using hr
    clear hr
    have hB := fun w1 (h : Below w.heap.size w w1) => R5Bytes_is _ l w1 (hR0.below h) hok.1 hok.2
    clear hok
    go_enter Try.func18, Try.ntmps18
    go_wp2_with (first
      | (go_at_call 7; refine hRt.mono ?_; rintro e w1 ⟨rfl, b1⟩; clear hRt)
      | (go_at_call 31; refine (hB _ b1).mono ?_; rintro e w2 ⟨v2, rfl, o2, b2⟩; clear hB)
      | fail)
    go_ret2
    unfold PutOut
    rw [HR.out, if_pos rfl, if_pos rfl]
    exact ⟨_, rfl, o2.rd, b1.trans (b2.mono b1.size)⟩
/-- The list that bytes hold, or an error. -/
def GetOut (b : List Nat) (w : World) (e : Ending) (w' : World) : Prop :=
  ∃ u, e = .returned (.tuple #[u, .int .i64 (getN b : Int)]) ∧ RdI w' u (getL b) ∧ Below w.heap.size w w'
end Go.Proofs.Ytcdfjkhjdiojbaa
