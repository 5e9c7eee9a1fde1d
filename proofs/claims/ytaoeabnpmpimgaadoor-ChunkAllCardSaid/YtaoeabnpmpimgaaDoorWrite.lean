/-
  What codec.Number, codec.Text and label.Bytes answer: bytes in new memory. Conditions: those that each theorem names.
-/
import Derived.Test.YtaoeabnpmpimgaaDoorRight
namespace Go.Proofs.YtaoeabnpmpimgaaDoor
open Go.RowKit Go.Icz
/-- It answers a slice of its own with the bytes l, and no error. -/
def Made (w : World) (l : List Nat) (e : Ending) (w' : World) : Prop :=
  ∃ v, e = .returned (.tuple #[v, .int .i64 0]) ∧ Own w' w.heap.size v l ∧ Below w.heap.size w w'
theorem plain_code (n : Int) (w : World) (h0 : 0 ≤ n) (h1 : n < 72057594037927936) :
    Calls Tryd.prog 119 #[.int .i64 n] w fun e w' => e = .returned (.tuple #[.int .u64 n, .bool true]) ∧ w = w' := by
  go_enter Tryd.func119, Tryd.ntmps119
  go_wp2
  go_ret2
  exact ⟨rfl, rfl⟩
set_option maxRecDepth 100000 in
set_option maxHeartbeats 400000 in
theorem write_plain (m : Int) (n : Nat) (w : World) (h1 : n < 72057594037927936)
    (hcode : Calls Tryd.prog 119 #[.int .i64 m] w fun e w' => e = .returned (.tuple #[.int .u64 (n : Int), .bool true]) ∧ w = w') :
    Calls Tryd.prog 72 #[.int .i64 m] w (Made w (num n)) := by
  have h8 := num_len8 h1
  go_enter Tryd.func72, Tryd.ntmps72
  go_wp2_with (go_at_call 119; refine hcode.mono ?_; rintro e w' ⟨rfl, rfl⟩)
  clear hcode
  go_loopw [6, 4] (fun v c wr => ∃ (k : Nat) (l : List Nat), c = .int .u64 k ∧ Own wr w.heap.size v l ∧ k ≤ n ∧ l ++ num k = num n ∧ Below w.heap.size w wr) (fun _ c _ => (intOf c).toNat)
  case atStart => exact ⟨n, [], rfl, Own.nil _ _, by omega, rfl, Below.refl _ _⟩
  case round =>
    obtain ⟨k, l, rfl, hown, hkn, hl, hbel⟩ := hrel
    have hll : l.length ≤ 8 := by have := congrArg List.length hl; simp at this; omega
    have hsz := hbel.size
    have HL := hid hl
    clear hl
    by_cases hk : (k : Int) < 128
    · go_wp2_with (at_builtin; refine wp_app1 std rfl (.tmp 25) (.tmp 28) rfl w.heap.size _ l k rfl hown rfl (by omega) hsz ?_; intro v' w1 hown' hb' _; clear hown)
      go_ret2
      have hl := HL.out
      rw [num_lo (by omega)] at hl
      exact ⟨_, rfl, by rw [← hl]; exact hown', hbel.trans hb'⟩
    · have h128 := or128 k
      go_wp2_with (at_builtin; refine wp_app1 std rfl (.tmp 19) (.tmp 23) rfl w.heap.size _ l (k % 128 + 128) rfl hown rfl (by omega) hsz ?_; intro v' w1 hown' hb' _; clear hown)
      go_roundw
      case rel =>
        refine ⟨k / 128, _, by go_num, hown', by omega, ?_, hbel.trans hb'⟩
        have hl := HL.out
        rw [num_hi (by omega)] at hl
        rw [← hl]
        simp
      case measure => simp [intOf]; omega
theorem Number_yes (n : Int) (w : World) (h0 : 0 ≤ n) (h1 : n < 72057594037927936) : Calls Tryd.prog 56 #[.int .i64 n] w (Made w (num n.toNat)) := by
  go_enter Tryd.func56, Tryd.ntmps56
  go_wp2_with (go_at_call 72; refine (write_plain _ n.toNat _ (by omega) (by have := plain_code n w h0 h1; rwa [Int.toNat_of_nonneg h0])).mono ?_; rintro e w' ⟨v, rfl, hown, hb⟩)
  go_ret2
  exact ⟨_, rfl, hown, hb⟩
/-- Text: the length as a number, and the bytes. -/
def txt (s : ByteArray) : List Nat := num s.size ++ nats s
theorem Text_yes (s : ByteArray) (w : World) (hs : s.size ≤ 65536) : Calls Tryd.prog 55 #[.string s] w (Made w (txt s)) := by
  have h8 := num_len8 (n := s.size) (by omega)
  have hN := Number_yes (s.size : Int)
  simp only [Int.toNat_natCast] at hN
  have HN := hid hN
  clear hN
  go_enter Tryd.func55, Tryd.ntmps55
  go_wp2_with (first | (go_at_call 56; refine (HN.out _ (by omega) (by omega)).mono ?_; rintro e w' ⟨v, rfl, hown, hb⟩) | (at_builtin; refine wp_appS std rfl (.tmp 18) (.tmp 19) rfl w.heap.size _ (num s.size) s rfl hown rfl (by omega) hb.size ?_; intro v' w1 hown' hb'; clear hown))
  go_ret2
  exact ⟨_, rfl, hown', hb.trans hb'⟩

def bytesL : List Lab → List Nat
  | [] => []
  | x :: t => (txt ⟨x.1.toArray⟩ ++ txt ⟨x.2.toArray⟩) ++ bytesL t
/-- The bytes of labels. -/
def bytesN (l : List Lab) : List Nat := num l.length ++ bytesL l
theorem txt_len (s : ByteArray) (h : s.size ≤ 128) : (txt s).length ≤ 136 := by
  unfold txt
  have := num_len8 (n := s.size) (by omega)
  rw [List.length_append, nats_len]
  omega
def part (x : Lab) : Nat → List Nat
  | 0 => []
  | 1 => txt ⟨x.1.toArray⟩
  | _ => txt ⟨x.1.toArray⟩ ++ txt ⟨x.2.toArray⟩
theorem cells89 : Tryd.prog.cellsOf 9 = 1 := by kernel_rfl
theorem idx0 (a b : ByteArray) (w : World) : (Instr.index 113 (.agg #[.string a, .string b]) (.int .i64 0)).run Tryd.prog w = .ok (.string a) w := by
  simp [Instr.index, run_underlying Tryd.underlying113, go_sem]
theorem idx1 (a b : ByteArray) (w : World) : (Instr.index 113 (.agg #[.string a, .string b]) (.int .i64 1)).run Tryd.prog w = .ok (.string b) w := by
  simp [Instr.index, run_underlying Tryd.underlying113, go_sem]
set_option maxHeartbeats 2000000 in
set_option maxRecDepth 100000 in
theorem Bytes_is (v : Value) (l : List Lab) (w : World) (hR : RdL w v l) (hT : Tabs w) (hr : rightS l = true) : Calls Tryd.prog 53 #[v] w (Made w (bytesN l)) := by
  obtain ⟨h16, hal⟩ := right_all hr
  have hRt := Right_is v l w hR hT (fun x hx => by have := hal x hx; omega)
  rw [hr] at hRt
  have hl0 : 0 < l.length := by
    simp only [rightS, Bool.and_eq_true, decide_eq_true_eq] at hr
    omega
  obtain ⟨A, c, rfl, hlc, hcell⟩ := hR
  obtain ⟨b, off, rfl, hb, hcell⟩ := hcell hl0
  have hNu := fun w => Number_yes (l.length : Int) w (by omega) (by omega)
  rw [Int.toNat_natCast] at hNu
  have hnl := num_len8 (n := l.length) (by omega)
  clear hr hT
  go_enter Tryd.func53, Tryd.ntmps53
  go_wp2_with (first | (go_at_call 40; refine hRt.mono ?_; rintro e w0 ⟨rfl, b0⟩; clear hRt) | (go_at_call 56; refine (hNu _).mono ?_; rintro e w1 ⟨u1, rfl, o1, b1'⟩; clear hNu))
  have b1 := b0.trans (b1'.mono b0.size)
  have o1' := o1.mono b0.size
  go_loopw [4, 26] (fun bv iv wr => ∃ (i : Nat) (acc : List Nat), iv = .int .i64 i ∧ i ≤ l.length ∧ Own wr w.heap.size bv acc ∧ Below w.heap.size w wr ∧ acc.length ≤ 8 + 300 * i ∧ Hid (bytesN l = acc ++ bytesL (l.drop i))) (fun _ iv _ => l.length - (intOf iv).toNat)
  case atStart => exact ⟨0, num l.length, rfl, by omega, o1', b1, by omega, hid (by simp [bytesN])⟩
  case round =>
    obtain ⟨i, acc, rfl, hi, hown, hbw, hacc, HX⟩ := hrel
    by_cases hlt : i < l.length
    · have hc0 := (hbw.cell (p := ⟨b, off + i * 2, none⟩) hb).trans (hcell i hlt).1
      have hc1 := (hbw.cell (p := ⟨b, off + i * 2 + 1, none⟩) hb).trans (hcell i hlt).2
      have hxl := hal l[i] (List.getElem_mem hlt)
      have hdrop : l.drop i = l[i] :: l.drop (i + 1) := List.drop_eq_getElem_cons hlt
      have HX2 : Hid (bytesN l = (acc ++ (txt ⟨(l[i]).1.toArray⟩ ++ txt ⟨(l[i]).2.toArray⟩)) ++ bytesL (l.drop (i + 1))) := hid (by rw [HX.out, hdrop]; simp [bytesL])
      clear hdrop hcell HX hal
      generalize l[i] = x at *
      have hT1 := fun w => Text_yes ⟨x.1.toArray⟩ w (by rw [Lib.size_mk]; omega)
      have hT2 := fun w => Text_yes ⟨x.2.toArray⟩ w (by rw [Lib.size_mk]; omega)
      have hl1 := txt_len ⟨x.1.toArray⟩ (by rw [Lib.size_mk]; omega)
      have hl2 := txt_len ⟨x.2.toArray⟩ (by rw [Lib.size_mk]; omega)
      obtain ⟨x1, x2⟩ := x
      simp only [] at hc0 hc1 hT1 hT2 hl1 hl2 HX2
      generalize txt ⟨x1.toArray⟩ = t1 at *
      generalize txt ⟨x2.toArray⟩ = t2 at *
      have hlim1 : acc.length + t1.length ≤ 140737488355328 := by omega
      have hlim2 : (acc ++ t1).length + t2.length ≤ 140737488355328 := by simp; omega
      have hwz := hbw.size
      have ha0 := fun o => hown.alloc o
      have hb0 := fun o => hbw.alloc hwz o
      go_wp2_with fail
      go_loopw [4, 35] (fun bv jv ws => (jv = .int .i64 0 ∧ Own ws w.heap.size bv acc ∧ Below w.heap.size w ws) ∨ (jv = .int .i64 1 ∧ Own ws w.heap.size bv (acc ++ t1) ∧ Below w.heap.size w ws) ∨ (jv = .int .i64 2 ∧ Own ws w.heap.size bv (acc ++ t1 ++ t2) ∧ Below w.heap.size w ws)) (fun _ jv _ => 2 - (intOf jv).toNat)
      case atStart => exact .inl ⟨rfl, ha0 _, hb0 _⟩
      case round =>
        rcases hrel with ⟨rfl, o2, b2⟩ | ⟨rfl, o2, b2⟩ | ⟨rfl, o2, b2⟩
        · have hi0 := fun w => idx0 ⟨x1.toArray⟩ ⟨x2.toArray⟩ w
          go_wp2_with (first | (go_at_call 55; refine (hT1 _).mono ?_; rintro e w3 ⟨u3, rfl, o3, b3⟩; have o2' := o2.below b3; have b3' := b2.trans (b3.mono b2.size)) | (at_builtin; refine wp_appR std rfl (.tmp 46) (.tmp 47) rfl w.heap.size _ _ acc t1 rfl o2' rfl o3.rd hlim1 b3'.size ?_; intro v4 w4 o4 b4))
          go_roundw
          case rel => exact .inr (.inl ⟨rfl, o4, b3'.trans b4⟩)
          case measure => simp [intOf]
        · have hi1 := fun w => idx1 ⟨x1.toArray⟩ ⟨x2.toArray⟩ w
          go_wp2_with (first | (go_at_call 55; refine (hT2 _).mono ?_; rintro e w3 ⟨u3, rfl, o3, b3⟩; have o2' := o2.below b3; have b3' := b2.trans (b3.mono b2.size)) | (at_builtin; refine wp_appR std rfl (.tmp 46) (.tmp 47) rfl w.heap.size _ _ (acc ++ t1) t2 rfl o2' rfl o3.rd hlim2 b3'.size ?_; intro v4 w4 o4 b4))
          go_roundw
          case rel => exact .inr (.inr ⟨rfl, o4, b3'.trans b4⟩)
          case measure => simp [intOf]
        · go_wp2
          go_roundw
          case rel => exact ⟨i + 1, acc ++ t1 ++ t2, by go_num, by omega, o2, b2, by simp; omega, hid (by rw [HX2.out]; simp)⟩
          case measure => simp [intOf]; omega
    · have HE : Hid (bytesN l = acc) := hid (by rw [HX.out, List.drop_eq_nil_of_le (by omega)]; simp [bytesL])
      clear hcell
      go_wp2
      go_ret2
      exact ⟨_, rfl, by rw [HE.out]; exact hown, hbw⟩
end Go.Proofs.YtaoeabnpmpimgaaDoor
