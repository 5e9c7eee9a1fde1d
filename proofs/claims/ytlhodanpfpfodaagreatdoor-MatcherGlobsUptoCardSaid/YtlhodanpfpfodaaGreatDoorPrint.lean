/-
  What label.Print answers. Conditions: the tables of package utf8 are in place; sizes as each theorem names.
-/
import Derived.Test.YtlhodanpfpfodaaGreatDoorRight
namespace Go.Proofs.YtlhodanpfpfodaaGreatDoor
open Go.RowKit Go.Icz

def pbody (bt : B8) : List Lab → B8
  | [] => []
  | x :: t => bt ++ x.1 ++ [61] ++ quoteS x.2 ++ pbody [44, 32] t
def printS (l : List Lab) : B8 := if rightS l = true then [123] ++ pbody [] l ++ [125] else []
theorem chain_all : ∀ (l : List Lab) (p : Option B8), chain p l = true → ∀ x ∈ l, x.1.length ≤ 64 ∧ x.2.length ≤ 128
  | [], _, _, x, hx => by simp at hx
  | y :: t, p, h, x, hx => by
    simp only [chain, Bool.and_eq_true] at h
    rcases List.mem_cons.1 hx with rfl | hx
    · have h1 := h.1.1.1
      have h2 := h.1.1.2
      simp only [nameS, valueS, Bool.and_eq_true, decide_eq_true_eq] at h1 h2
      omega
    · exact chain_all t _ h.2 x hx
theorem right_all {l : List Lab} (h : rightS l = true) : l.length ≤ 16 ∧ ∀ x ∈ l, x.1.length ≤ 64 ∧ x.2.length ≤ 128 := by
  simp only [rightS, Bool.and_eq_true, decide_eq_true_eq] at h
  exact ⟨h.1.2, chain_all l none h.2⟩
theorem qbodyF_len : ∀ (n : Nat) (l : B8), (qbodyF n l).length ≤ 6 * l.length
  | 0, l => by simp [qbodyF]
  | n + 1, l => by
    unfold qbodyF
    split
    · simp
    · rename_i hne
      have h1 := qr_len (Lib.decodeL l).1
      have h2 := qbodyF_len n (l.drop (Lib.decodeL l).2)
      have h3 := Lib.decodeL_width l
      have h4 := List.length_pos_iff.2 hne
      rw [List.length_drop] at h2
      rw [List.length_append]
      omega
theorem quoteS_len (l : B8) : (quoteS l).length ≤ 6 * l.length + 2 := by
  unfold quoteS
  split
  · have := qbodyF_len l.length l
    simp only [List.length_append, List.length_cons, List.length_nil, qbody]
    omega
  · simp

theorem undrew {B : Nat} {w w' : World} (h : Below B w.drew w') : Below B w w' := ⟨h.os, h.tape, h.output, h.size, h.block⟩
set_option maxHeartbeats 2000000 in
set_option maxRecDepth 100000 in
theorem Print_is (v : Value) (l : List Lab) (w : World) (hR : RdL w v l) (hT : Tabs w) (hsz : ∀ x ∈ l, x.1.length ≤ 9223372036854775807 ∧ x.2.length ≤ 9223372036854775807) :
    Calls Tryz.prog 13 #[v] w fun e w' => e = .returned (.string ⟨(printS l).toArray⟩) ∧ Below w.heap.size w w' := by
  have hRt := Right_is v l w hR hT hsz
  obtain ⟨A, c, rfl, hlc, hcell⟩ := hR
  cases hr : rightS l with
  | false =>
    have HP : Hid (printS l = []) := hid (by unfold printS; rw [hr]; rfl)
    rw [hr] at hRt
    clear hcell
    go_enter Tryz.func13, Tryz.ntmps13
    go_wp2_with (go_at_call 41; refine hRt.mono ?_; rintro e w1 ⟨rfl, b1⟩)
    go_ret
    rw [HP.out]
    exact ⟨rfl, b1⟩
  | true =>
    have HP : Hid (printS l = [123] ++ pbody [] l ++ [125]) := hid (by unfold printS; rw [if_pos hr])
    have hall := right_all hr
    have hl0 : 0 < l.length := by
      simp only [rightS, Bool.and_eq_true, decide_eq_true_eq] at hr
      omega
    rw [hr] at hRt
    obtain ⟨b, off, rfl, hb, hcell⟩ := hcell hl0
    obtain ⟨h16, hal⟩ := hall
    clear hsz
    go_enter Tryz.func13, Tryz.ntmps13
    go_wp2_with (go_at_call 41; refine hRt.mono ?_; rintro e w0 ⟨rfl, bel0⟩; clear hRt)
    have hfr : Lib.IsBuilderF 81 5 w0.heap.size w0.heap.size (Lib.byteCells []) (w0.alloc (.cells #[.pointer none, .slice none 0 0] 81)) := Lib.IsBuilderF.of (Lib.fresh_isBuilder 81 5 w0)
    have hsz0 := bel0.size
    have hT0 := hT.below bel0
    refine (writes w0.heap.size [] [123] _ hfr (by simp) (by simp)).mono ?_
    rintro e w1 ⟨rfl, h1, b1, _⟩
    rw [List.nil_append] at h1
    have b1' : Below w0.heap.size w0 w1 := below_alloc (Nat.le_refl _) b1
    clear hfr
    go_wp2
    go_loopw [4, 13] (fun bv iv wr => ∃ (i : Nat) (bt acc : B8), iv = .int .i64 i ∧ bv = .string ⟨bt.toArray⟩ ∧ bt.length ≤ 2 ∧ i ≤ l.length ∧ Lib.IsBuilderF 81 5 w0.heap.size w0.heap.size (Lib.byteCells acc) wr ∧ Below w0.heap.size w0 wr ∧
      acc.length ≤ 1 + 1000 * i ∧ Hid ([123] ++ pbody [] l = acc ++ pbody bt (l.drop i))) (fun _ iv _ => l.length - (intOf iv).toNat)
    case atStart => exact ⟨0, [], [123], rfl, rfl, by simp, by omega, h1, b1', by simp, hid (by simp)⟩
    case round =>
      obtain ⟨i, bt, acc, rfl, rfl, hbt, hi, hI, hbw, hacc, HX⟩ := hrel
      have hbww := bel0.trans (hbw.mono hsz0)
      by_cases hlt : i < l.length
      · have hc0 := (hbww.cell (p := ⟨b, off + i * 2, none⟩) hb).trans (hcell i hlt).1
        have hc1 := (hbww.cell (p := ⟨b, off + i * 2 + 1, none⟩) hb).trans (hcell i hlt).2
        have hxl := hal l[i] (List.getElem_mem hlt)
        have hQ := fun w hT => Quote_is ⟨(l[i]).2.toArray⟩ w (by rw [Lib.size_mk]; omega) hT
        simp only [] at hQ
        have hql := quoteS_len (l[i]).2
        have hdrop : l.drop i = l[i] :: l.drop (i + 1) := List.drop_eq_getElem_cons hlt
        have HX2 : Hid ([123] ++ pbody [] l = acc ++ (bt ++ (l[i]).1 ++ [61] ++ quoteS (l[i]).2) ++ pbody [44, 32] (l.drop (i + 1))) := hid (by rw [HX.out, hdrop]; simp [pbody])
        have hTw := hT0.below hbw
        clear hdrop hcell HX hal
        generalize l[i] = x at *
        obtain ⟨nm, vl⟩ := x
        simp only [] at hc0 hc1 hQ hxl hql HX2
        generalize quoteS vl = q at *
        have hIa : ∀ o, Lib.IsBuilderF 81 5 w0.heap.size w0.heap.size (Lib.byteCells acc) (wr.alloc o).drew := fun o => hI.alloc o
        have hTa : ∀ o, Tabs (wr.alloc o).drew := fun o => hTw.below (((Below.refl wr.heap.size wr).alloc (Nat.le_refl _) o).drew)
        have hwz := hbw.size
        go_wp2
        go_region_with (first | (go_at_call 43; refine (hQ _ (hTa _)).mono ?_; rintro e w2 ⟨rfl, b2⟩; have d0 := (box57 (undrew b2)).1; have d1 := (box57 (undrew b2)).2.1; have hz2 := (box57 (undrew b2)).2.2) | (go_at_call 42; refine (writes w0.heap.size acc (bt ++ nm ++ [61] ++ q) _ (builder_below (hIa _) b2) (by simp; omega) (by omega)).mono ?_; rintro e w3 ⟨rfl, h3, b3, _⟩))
        all_goals
          have HX3 := HX2
          clear HX2 hQ
          go_wp2
          go_roundw
          case rel =>
            refine ⟨i + 1, [44, 32], acc ++ (bt ++ nm ++ [61] ++ q), by go_num, rfl, by simp, by omega, h3, hbw.trans (((below_push (undrew b2)).mono hwz).trans b3), by simp; omega, HX3⟩
          case measure => simp [intOf]; omega
      · have HE : Hid ([123] ++ pbody [] l = acc) := hid (by rw [HX.out, List.drop_eq_nil_of_le (by omega)]; simp [pbody])
        clear hcell
        go_wp2_with (first | (go_at_call 42; refine (writes w0.heap.size acc [125] _ hI (by simp; omega) hbw.size).mono ?_; rintro e w4 ⟨rfl, h4, b4, k4⟩) | (go_at_call 44; refine (Tryz.Builder_String_any_k w0.heap.size w0.heap.size (acc ++ [125]) _ h4 (by have := b4.size; have := hbw.size; omega)).mono ?_; rintro e w5 ⟨rfl, _, b5, _⟩))
        go_ret
        rw [HP.out, HE.out]
        exact ⟨rfl, bel0.trans (((hbw.trans b4).trans b5).mono hsz0)⟩
end Go.Proofs.YtlhodanpfpfodaaGreatDoor
