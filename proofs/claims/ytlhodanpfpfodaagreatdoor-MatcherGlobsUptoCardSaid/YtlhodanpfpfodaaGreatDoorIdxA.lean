/-
  What strings.IndexAny answers of the three signs that end a name. Condition: the text's size as the theorem names.
-/
import Derived.Test.YtlhodanpfpfodaaGreatDoorNum
import Derived.Test.YtlhodanpfpfodaaGreatDoorRuneDec
import Derived.Laws.Runes
namespace Go.Proofs.YtlhodanpfpfodaaGreatDoor
open Go.RowKit Go.Icz
theorem below_iter (w : World) (s : ByteArray) (i : Nat) : Below w.heap.size w (w.iter s i) := (Below.refl _ w).alloc (Nat.le_refl _) _
theorem below_dx (w : World) (n : Nat) : Below w.heap.size w (w.drewN n) :=
  have h := Below.refl w.heap.size w
  ⟨h.os, h.tape, h.output, h.size, h.block⟩
theorem signs_no {c : UInt8} (h : 128 ≤ c.toNat) : ∀ l : B8, (∀ b ∈ l, b.toNat < 128) → Lib.indexByte l c = -1
  | [], _ => rfl
  | b :: t, hl => by
    unfold Lib.indexByte
    have hb := hl b (by simp)
    have hne : (b == c) = false := by rw [beq_eq_false_iff_ne]; rintro rfl; omega
    rw [hne, signs_no h t fun x hx => hl x (by simp [hx])]
    rfl
set_option maxRecDepth 100000 in
theorem ValidRune_yes (r : Nat) (h2 : r ≤ 1114111) (h : ¬ (55296 ≤ r ∧ r < 57344)) (w : World) : Calls Tryz.prog 181 #[.int .i32 r] w fun e w' => e = .returned (.bool true) ∧ w' = w := by
  have e0 : (0 : Int) ≤ r := by omega
  have e9 : (r : Int) ≤ 1114111 := by omega
  by_cases h1 : r < 55296
  · have e1 : (r : Int) < 55296 := by omega
    go_enter Tryz.func181, Tryz.ntmps181
    go_wp2_with fail
    go_ret
    exact ⟨rfl, rfl⟩
  · have e1 : ¬ (r : Int) < 55296 := by omega
    have e2 : (57343 : Int) < r := by omega
    go_enter Tryz.func181, Tryz.ntmps181
    go_wp2_with fail
    go_ret
    exact ⟨rfl, rfl⟩
set_option maxHeartbeats 4000000 in
set_option maxRecDepth 100000 in
theorem IndexRune_hi (r : Nat) (h1 : 128 ≤ r) (h2 : r ≤ 1114111) (w : World) :
    Calls Tryz.prog 158 #[.string ⟨#[32, 61, 33]⟩, .int .i32 r] w fun e w' => e = .returned (.int .i64 (-1)) ∧ Below w.heap.size w w' := by
  have e1 : ¬ (r : Int) < 128 := by omega
  have e0 : (0 : Int) ≤ r := by omega
  by_cases hr : r = 65533
  · subst hr
    go_enter Tryz.func158, Tryz.ntmps158
    go_wp2_with fail
    go_loopw [5, 6] (fun _ _ wr => ∃ i : Nat, i ≤ 3 ∧ wr = w.iter ⟨#[32, 61, 33]⟩ i) (fun _ _ wr => 3 - wr.iterPos w.heap.size)
    case atStart => exact ⟨0, by omega, rfl⟩
    case round =>
      obtain ⟨i, hi, rfl⟩ := hrel
      by_cases hlt : i < 3
      · have hp : ∀ i, i < 3 → ∃ h : i < (⟨#[32, 61, 33]⟩ : ByteArray).size, ((⟨#[32, 61, 33]⟩ : ByteArray)[i]'h).toNat < 128 := by decide
        obtain ⟨hz, ha⟩ := hp i hlt
        have hnx := fun ty => run_next_ascii (P := Tryz.prog) w ⟨#[32, 61, 33]⟩ i ty hz ha
        have hm : 3 - (w.iter ⟨#[32, 61, 33]⟩ (i + 1)).iterPos w.heap.size < 3 - (w.iter ⟨#[32, 61, 33]⟩ i).iterPos w.heap.size := by
          simp only [World.iterPos, World.iter_heap]; omega
        generalize ((⟨#[32, 61, 33]⟩ : ByteArray)[i]'hz).toNat = x at *
        have ex : ((x : Int) == 65533) = false := by rw [beq_eq_false_iff_ne]; omega
        go_wp2_with fail
        exact ⟨⟨i + 1, by omega, rfl⟩, hm⟩
      · obtain rfl : i = 3 := by omega
        have hnx := fun ty => run_next_end (P := Tryz.prog) w ⟨#[32, 61, 33]⟩ 3 ty (by decide)
        go_wp2_with fail
        go_ret
        exact ⟨rfl, below_iter _ _ _⟩
  · have e2 : ((r : Int) == 65533) = false := by rw [beq_eq_false_iff_ne]; omega
    by_cases hs : 55296 ≤ r ∧ r < 57344
    · obtain ⟨s1, s2⟩ := hs
      have e3 : ¬ (r : Int) < 55296 := by omega
      have e4 : ¬ (57343 : Int) < r := by omega
      go_enter Tryz.func158, Tryz.ntmps158
      go_wp2_with (go_at_call 181; go_in)
      go_ret
      exact ⟨rfl, Below.refl _ _⟩
    · have hv : Utf8.valid (r : Int) = true := by rw [valid_nat]; simp; omega
      obtain ⟨z1, z2, z3⟩ := encode_facts (r : Int) hv (by omega)
      have hI := fun (s : ByteArray) (c : Nat) (w1 : World) => Any.strings_IndexByte Tryz.lays137 s (c : Int) w1
      have hcv : ∀ w, (convert 21 9 (.int .i32 (r : Int))).run Tryz.prog w = .ok (.string (Utf8.encode (r : Int))) w := fun w => run_convert_int_string w _ _ _ _ (by rw [Tryz.underlying21]; rfl) Tryz.underlying9
      generalize Utf8.encode (r : Int) = rs at *
      rcases (by omega : rs.size = 2 ∨ rs.size = 3 ∨ rs.size = 4) with hz | hz | hz
      · have hV := fun w1 => ValidRune_yes r h2 hs w1
        have hb := z3 (by omega)
        simp only [hz] at hb
        obtain ⟨⟨l⟩⟩ := rs
        obtain ⟨a, b, rfl⟩ : ∃ a b, l = [a, b] := by
          match l, hz with
          | [a, b], _ => exact ⟨a, b, rfl⟩
        have hb2 : 128 ≤ b.toNat := hb
        have hne : ((61 : Int) != (b.toNat : Int)) = true := by rw [bne_iff_ne]; omega
        have hI2 := fun w1 => hI ⟨#[33]⟩ b.toNat w1
        have hix : Lib.indexByte (⟨#[33]⟩ : ByteArray).data.toList ((b.toNat : Int).toNat.toUInt8) = -1 := by
          rw [Int.toNat_natCast]
          have e : b.toNat.toUInt8 = b := by simp
          rw [e]
          exact signs_no hb2 _ (by decide)
        rw [hix] at hI2
        clear hs z3 hI hb hix hb2 hz
        go_enter Tryz.func158, Tryz.ntmps158
        go_wp2_with (go_at_call 181; refine (hV _).mono ?_; rintro e w1 ⟨rfl, rfl⟩)
        go_step3
        go_wp2_with fail
        go_loopw [9] (fun iv wr => iv = .int .i64 1 ∧ wr = w1) (fun _ _ => 0)
        case atStart => exact ⟨rfl, rfl⟩
        case round =>
          obtain ⟨rfl, rfl⟩ := hrel
          go_wp2_with fail
          have hex : (⟨#[32, 61, 33]⟩ : ByteArray).extract 2 3 = ⟨#[33]⟩ := by decide
          have hwr : IntKind.i64.wrap 2 = 2 := by decide
          go_step3
          repeat (refine wp_seq ?_)
          go_quiet (fail)
          refine wp_cond_true (x := _) (y := _) (congrArg Value.bool hne) ?_
          repeat (refine wp_seq ?_)
          go_quiet ((go_at_call 180; exact (hI2 _).mono fun _ _ ⟨h, k⟩ => ⟨h, _, k⟩))
          generalize ((⟨#[32, 61, 33]⟩ : ByteArray)[1]'_).toNat = x1
          generalize ((⟨⟨[a, b]⟩⟩ : ByteArray)[1]'_).toNat = x2
          go_wp2_with fail
          rw [Exit.noGoto_ret]
          simp +zetaDelta only [Exit.inBlock, Exit.then, Exit.noGoto_ret]
          go_ret
          exact ⟨rfl, below_dx _ _⟩
      · have hV := fun w1 => ValidRune_yes r h2 hs w1
        have hb := z3 (by omega)
        simp only [hz] at hb
        obtain ⟨⟨l⟩⟩ := rs
        obtain ⟨a, b, c, rfl⟩ : ∃ a b c, l = [a, b, c] := by
          match l, hz with
          | [a, b, c], _ => exact ⟨a, b, c, rfl⟩
        have hb2 : 128 ≤ c.toNat := hb
        have hne : ((33 : Int) != (c.toNat : Int)) = true := by rw [bne_iff_ne]; omega
        have hI2 := fun w1 => hI ⟨#[]⟩ c.toNat w1
        have hix : Lib.indexByte (⟨#[]⟩ : ByteArray).data.toList ((c.toNat : Int).toNat.toUInt8) = -1 := by
          rw [Int.toNat_natCast]
          have e : c.toNat.toUInt8 = c := by simp
          rw [e]
          exact signs_no hb2 _ (by decide)
        rw [hix] at hI2
        clear hs z3 hI hb hix hb2 hz
        go_enter Tryz.func158, Tryz.ntmps158
        go_wp2_with (go_at_call 181; refine (hV _).mono ?_; rintro e w1 ⟨rfl, rfl⟩)
        go_step3
        go_wp2_with fail
        go_loopw [9] (fun iv wr => iv = .int .i64 2 ∧ wr = w1) (fun _ _ => 0)
        case atStart => exact ⟨rfl, rfl⟩
        case round =>
          obtain ⟨rfl, rfl⟩ := hrel
          go_wp2_with fail
          have hex : (⟨#[32, 61, 33]⟩ : ByteArray).extract 3 3 = ⟨#[]⟩ := by decide
          have hwr : IntKind.i64.wrap 3 = 3 := by decide
          go_step3
          repeat (refine wp_seq ?_)
          go_quiet (fail)
          refine wp_cond_true (x := _) (y := _) (congrArg Value.bool hne) ?_
          repeat (refine wp_seq ?_)
          go_quiet ((go_at_call 180; exact (hI2 _).mono fun _ _ ⟨h, k⟩ => ⟨h, _, k⟩))
          generalize ((⟨#[32, 61, 33]⟩ : ByteArray)[2]'_).toNat = x1
          generalize ((⟨⟨[a, b, c]⟩⟩ : ByteArray)[2]'_).toNat = x2
          go_wp2_with fail
          rw [Exit.noGoto_ret]
          simp +zetaDelta only [Exit.inBlock, Exit.then, Exit.noGoto_ret]
          go_ret
          exact ⟨rfl, below_dx _ _⟩
      · have hV := fun w1 => ValidRune_yes r h2 hs w1
        clear hs z3 hI
        go_enter Tryz.func158, Tryz.ntmps158
        go_wp2_with (go_at_call 181; refine (hV _).mono ?_; rintro e w1 ⟨rfl, rfl⟩)
        go_step3
        go_wp2_with fail
        go_loopw [9] (fun iv wr => iv = .int .i64 3 ∧ wr = w1) (fun _ _ => 0)
        case atStart => exact ⟨rfl, rfl⟩
        case round =>
          obtain ⟨rfl, rfl⟩ := hrel
          go_wp2_with fail
          rw [Exit.noGoto_ret]
          go_ret
          exact ⟨rfl, Below.refl _ _⟩
end Go.Proofs.YtlhodanpfpfodaaGreatDoor
