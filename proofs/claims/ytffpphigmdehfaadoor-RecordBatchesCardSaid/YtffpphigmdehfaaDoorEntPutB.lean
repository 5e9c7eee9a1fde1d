/-
  What record.PutBatch answers. Conditions: the entries can be read; sizes as each theorem names.
-/
import Derived.Test.YtffpphigmdehfaaDoorEntBatch
namespace Go.Proofs.YtffpphigmdehfaaDoor
open Go.RowKit Go.Icz
def batL : List Ent → List Nat
  | [] => []
  | x :: t => txt (str (entB x)) ++ batL t
/-- The bytes of a batch. -/
def batB (l : List Ent) : List Nat := num l.length ++ batL l
theorem batC_all : ∀ (l : List Ent) (p : Option Int), batC p l = true → ∀ x ∈ l, entR x = true
  | [], _, _, x, hx => by simp at hx
  | y :: t, p, h, x, hx => by
    simp only [batC, Bool.and_eq_true] at h
    rcases List.mem_cons.1 hx with rfl | hx
    · exact h.1.1
    · exact batC_all t _ h.2 x hx
theorem batR_all {l : List Ent} (h : batR l = true) : (1 ≤ l.length ∧ l.length ≤ 16) ∧ ∀ x ∈ l, entR x = true := by
  simp only [batR, Bool.and_eq_true, decide_eq_true_eq] at h
  exact ⟨h.1, batC_all l none h.2⟩
theorem entB_len {x : Ent} (h : entR x = true) : (entB x).length ≤ 5456 := by
  unfold entR at h
  simp only [Bool.and_eq_true, decide_eq_true_eq] at h
  obtain ⟨⟨⟨⟨s1, s2⟩, u1, u2⟩, l1⟩, hrr⟩ := h
  have hn1 := num_len8 (n := x.seq.toNat) (by omega)
  have hn2 := num_len8 (n := x.time.toNat) (by omega)
  have hbl := bytesN_len hrr
  have ht1 := txt_len2 (str (bytesN x.labs)) (by rw [str_len]; omega)
  rw [str_len] at ht1
  have hls : (⟨x.line.toArray⟩ : ByteArray).size = x.line.length := Lib.size_mk _
  have ht2 := txt_len2 ⟨x.line.toArray⟩ (by omega)
  rw [hls] at ht2
  unfold entB
  simp only [List.length_append]
  omega
/-- The bytes of a batch that may be; an error else. -/
def BatOut (l : List Ent) (w : World) (e : Ending) (w' : World) : Prop :=
  ∃ v, e = .returned (.tuple #[v, .int .i64 (if batR l = true then 0 else 1)]) ∧ Rd w' v (if batR l = true then batB l else []) ∧ Below w.heap.size w w'
set_option maxHeartbeats 4000000 in
set_option maxRecDepth 100000 in
theorem EPutBatch_is (v : Value) (l : List Ent) (w : World) (hR : RdE w v l) (hT : Tabs w) (hz : ∀ x ∈ l, entZ x) :
    Calls Tryd.prog 29 #[v] w (BatOut l w) := by
  have hRt := rightBatch_is v l w hR hT hz
  cases hr : batR l with
  | false =>
    rw [hr] at hRt
    have HR := hid hr
    clear hr hR hT hz
    go_enter Tryd.func29, Tryd.ntmps29
    go_wp2_with (go_at_call 78; refine hRt.mono ?_; rintro e w1 ⟨rfl, b1⟩; clear hRt)
    go_ret2
    unfold BatOut
    rw [HR.out, if_neg (by decide), if_neg (by decide)]
    exact ⟨_, rfl, Rd.nil _, b1⟩
  | true =>
    rw [hr] at hRt
    have HR := hid hr
    obtain ⟨⟨h1, h16⟩, hall⟩ := batR_all hr
    clear hr
    obtain ⟨A, c, rfl, hlc, hcell⟩ := hR
    obtain ⟨b, off, rfl, hb, hcell⟩ := hcell h1
    have hNu := fun w1 => Number_yes (l.length : Int) w1 (by omega) (by omega)
    rw [Int.toNat_natCast] at hNu
    have hnl := num_len8 (n := l.length) (by omega)
    have e0 : ([] : List Nat).length + (num l.length).length ≤ 140737488355328 := by simp; omega
    go_enter Tryd.func29, Tryd.ntmps29
    go_wp2_with (first
      | (go_at_call 78; refine hRt.mono ?_; rintro e w1 ⟨rfl, b1⟩; clear hRt)
      | (go_at_call 59; refine (hNu _).mono ?_; rintro e w3 ⟨v3, rfl, o3, b3⟩; have W3 := WrAt.below (WrAt.new w1) b3; have d3 : Below w1.heap.size w1 w3 := below_push b3; have z3 : w1.heap.size + 1 ≤ w3.heap.size := (by have := b3.size; simpa using this); clear hNu b3)
      | (go_at_call 58; refine (Eadd_is _ _ _ _ _ _ W3 o3.rd e0 z3).mono ?_; rintro e w4 ⟨rfl, W4, b4⟩; have d4 := d3.trans b4; have z4 := Nat.le_trans z3 b4.size; clear W3 o3 b4 d3 z3 e0))
    have c1 := b1
    generalize hg : w1.heap.size = g at *
    go_loopw [20] (fun kv wr => ∃ (i : Nat) (acc : List Nat), kv = .int .i64 i ∧ i ≤ l.length ∧ WrAt wr (g + 1) g acc 0 ∧ Below g w1 wr ∧ g + 1 ≤ wr.heap.size ∧ acc.length ≤ 8 + 5500 * i ∧ Hid (batB l = acc ++ batL (l.drop i))) (fun kv _ => l.length - (intOf kv).toNat)
    case atStart => exact ⟨0, num l.length, rfl, by omega, by simpa using W4, d4, z4, by omega, hid (by simp [batB])⟩
    case round =>
      obtain ⟨i, acc, rfl, hi, hW, hd, hzr, hacc, HX⟩ := hrel
      have hbr : Below w.heap.size w wr := c1.trans (hd.mono (by have := c1.size; omega))
      by_cases hlt : i < l.length
      · obtain ⟨A', c', q0, q1, q2, q3, rl⟩ := hcell i hlt
        have q0 := (hbr.cell (p := ⟨b, off + i * 4, none⟩) hb).trans q0
        have q1 := (hbr.cell (p := ⟨b, off + i * 4 + 1, none⟩) hb).trans q1
        have q2 := (hbr.cell (p := ⟨b, off + i * 4 + 2, none⟩) hb).trans q2
        have q3 := (hbr.cell (p := ⟨b, off + i * 4 + 3, none⟩) hb).trans q3
        have rl := rl.below hbr
        have hxr := hall l[i] (List.getElem_mem hlt)
        have hxz := hz l[i] (List.getElem_mem hlt)
        have hTr := hT.below hbr
        have HX2 : Hid (batB l = (acc ++ txt (str (entB l[i]))) ++ batL (l.drop (i + 1))) := hid (by rw [HX.out, List.drop_eq_getElem_cons hlt]; simp [batL])
        clear hcell HX
        generalize l[i] = x at *
        have hP := fun w2 (g2 : RdL w2 (.slice A' x.labs.length c') x.labs) (hT2 : Tabs w2) => EPut_is x A' c' w2 g2 hT2 hxz
        unfold EPutOut at hP
        rw [hxr, if_pos rfl, if_pos rfl] at hP
        have hel := entB_len hxr
        have hTx := fun w2 => Text_yes (str (entB x)) w2 (by rw [str_len]; omega)
        have htl := txt_len2 (str (entB x)) (by rw [str_len]; omega)
        rw [str_len] at htl
        clear hxr hxz hall hz hT
        unfold entV at hP
        have e1 : acc.length + (txt (str (entB x))).length ≤ 140737488355328 := by omega
        have e2 : (acc ++ txt (str (entB x))).length ≤ 8 + 5500 * (i + 1) := by simp; omega
        have rl2 := fun o => rl.alloc o
        have hT2 := fun o => hTr.below ((Below.refl _ _).alloc (Nat.le_refl _) o)
        have hW2 := fun o => WrAt.below hW ((Below.refl _ _).alloc (Nat.le_refl _) o)
        have hd2 := fun o => hd.alloc (by omega : g ≤ wr.heap.size) o
        generalize txt (str (entB x)) = t at *
        generalize entB x = eb at *
        clear hel htl rl hTr hW hd
        go_wp2_with (first
          | (go_at_call 16; refine (hP _ (rl2 _) (hT2 _)).mono ?_; rintro e w5 ⟨v5, rfl, r5, b5⟩; have W5 := WrAt.below (hW2 _) b5; have d5 := (hd2 _).trans (b5.mono (by simp; omega)); have z5 : g + 1 ≤ w5.heap.size := (by have := b5.size; simp at this; omega); have cv := conv_rd std r5; clear hP rl2 hT2 hW2 hd2)
          | (go_at_call 60; refine (hTx _).mono ?_; rintro e w7 ⟨v7, rfl, o7, b7⟩; have W7 := WrAt.below W5 b7; have d7 := d5.trans (b7.mono (by omega)); have z7 := Nat.le_trans z5 b7.size; clear hTx b7 W5 d5 z5 cv)
          | (go_at_call 58; refine (Eadd_is _ _ _ _ _ _ W7 o7.rd e1 z7).mono ?_; rintro e w8 ⟨rfl, W8, b8⟩; have d8 := d7.trans b8; have z8 := Nat.le_trans z7 b8.size; clear W7 o7 b8 d7 z7 e1)
          | fail)
        go_roundw
        case rel => exact ⟨i + 1, acc ++ t, by go_num, by omega, W8, d8, z8, e2, hid (by rw [HX2.out])⟩
        case measure => simp [intOf]; omega
      · have HE : Hid (batB l = acc) := hid (by rw [HX.out, List.drop_eq_nil_of_le (by omega)]; simp [batL])
        clear hcell HX hall hz
        go_wp2_with (go_at_call 61; refine (Edone_is _ _ _ _ hW).mono ?_; rintro e w11 ⟨v11, rfl, o11, rfl⟩; clear hW)
        go_ret2
        unfold BatOut
        rw [HR.out, if_pos rfl, if_pos rfl, HE.out]
        exact ⟨_, rfl, o11.rd, hbr⟩
end Go.Proofs.YtffpphigmdehfaaDoor
