/-
  SimdiskSwaps's walk: behind any crash the name has the old bytes or the new ones. Conditions: the list is no longer than 2^20.
-/
import Derived.Test.YtjpneohachkheaaSfi
namespace Go.Proofs.Ytjpneohachkheaa
open Go.RowKit Go.Icz Go.Maps Go.ChangeMaps Go.MapKept
set_option maxRecDepth 100000
set_option maxHeartbeats 4000000
theorem rd_first (w : World) (tg : Nat × Nat) : KB.Rd (w.alloc (.cells #[.int .u8 102, .int .u8 105, .int .u8 114, .int .u8 115, .int .u8 116] 5 tg)) (.slice (some ⟨w.heap.size, 0, none⟩) b1.length 5) b1 := by
  have h := heap_alloc_new w (.cells #[.int .u8 102, .int .u8 105, .int .u8 114, .int .u8 115, .int .u8 116] 5 tg)
  refine ⟨_, 5, rfl, by decide, fun _ => ⟨w.heap.size, 0, rfl, by simp, fun j u hj => ?_⟩⟩
  rw [cell_of_row _ _ _ _ _ _ h]
  rw [KB_cells] at hj
  match j, hj with
  | 0, hj => exact hj
  | 1, hj => exact hj
  | 2, hj => exact hj
  | 3, hj => exact hj
  | 4, hj => exact hj
  | j + 5, hj => cases hj
theorem w64_le (x : Int) : wrap64 x ≤ 9223372036854775807 := by
  unfold wrap64
  omega
theorem tm_le (x : Int) : x.tmod 12 ≤ 9223372036854775807 := by
  have := Int.tmod_lt_of_pos x (show (0 : Int) < 12 by decide)
  omega
theorem swap_split {a b : List Nat} {e : Int} {M : DM} (h : SwapEnd a b e M) (ha : a.length ≤ 500) (hb : b.length ≤ 500) (k : List Bool) : ∃ y, Hid (Setl y (crashM M k)) ∧ Hid (y.length ≤ 500) ∧
    ((e = 0 ∧ Hid (strB y = strB b)) ∨ (e = 8 ∧ Hid (strB y = strB b)) ∨ (e = 8 ∧ Hid (strB y = strB a) ∧ ((strB a).toList == (strB b).toList) = false) ∨ (e = 9 ∧ Hid (strB y = strB b)) ∨ (e = 9 ∧ Hid (strB y = strB a) ∧ ((strB a).toList == (strB b).toList) = false)) := by
  rcases h with ⟨h0, g⟩ | ⟨h0, g⟩
  · rcases good_crash g k with s | s
    · exact ⟨b, hid s, hid hb, .inl ⟨h0, hid rfl⟩⟩
    · exact ⟨b, hid s, hid hb, .inl ⟨h0, hid rfl⟩⟩
  · have hs : Setl a (crashM M k) ∨ Setl b (crashM M k) := by
      rcases g with g | g
      · exact good_crash g k
      · rcases good_crash g k with s | s <;> exact .inr s
    have hq : ∃ y, Setl y (crashM M k) ∧ y.length ≤ 500 ∧ (strB y = strB b ∨ (strB y = strB a ∧ ((strB a).toList == (strB b).toList) = false)) := by
      rcases hs with s | s
      · by_cases he : strB a = strB b
        · exact ⟨a, s, ha, .inl he⟩
        · exact ⟨a, s, ha, .inr ⟨rfl, str_ne he⟩⟩
      · exact ⟨b, s, hb, .inl rfl⟩
    obtain ⟨y, s, hl, hc⟩ := hq
    refine ⟨y, hid s, hid hl, .inr ?_⟩
    rcases h0 with h0 | h0 <;> rcases hc with hc | ⟨hc, hn⟩
    · exact .inl ⟨h0, hid hc⟩
    · exact .inr (.inl ⟨h0, hid hc, hn⟩)
    · exact .inr (.inr (.inl ⟨h0, hid hc⟩))
    · exact .inr (.inr (.inr ⟨h0, hid hc, hn⟩))
theorem swaps_walk (v0 : Value) (l : List SwD) (W : World) (h1 : RdS W W.heap.size v0 l) :
    Calls Try.prog 6 #[v0] W fun e W' => e = .returned (.bool true) ∧ Below W.heap.size W W' := by
  obtain ⟨A1, C1, rfl, hlb, hrow⟩ := h1
  obtain ⟨T, hTd⟩ : ∃ T : Nat → Prop, T = fun k => W.heap.size ≤ k := ⟨_, rfl⟩
  have hTW : ∀ w1, Below W.heap.size W w1 → ∀ k, w1.heap.size ≤ k → T k := fun w1 b1 k hk => by rw [hTd]; exact Nat.le_trans b1.size hk
  have hN : Calls Try.prog 24 #[.int .i64 1048576] W fun e w' => ∃ q p, e = .returned (.tuple #[.pointer (some ⟨q, 0, none⟩), .int .i64 0]) ∧ Hid (Dsk w' T 0 q p (newM 1048576)) ∧ Hid (Below W.heap.size W w') := (New_d 1048576 W (by decide) (by decide) (hTW W (Below.refl _ _))).mono (by
    rintro e w' ⟨q, p, rfl, h1, h2⟩
    exact ⟨q, p, rfl, hid h1, hid h2⟩)
  have PK : ∀ w1 q p, Hid (Dsk w1 T 0 q p (newM 1048576)) → Hid (Below W.heap.size W w1) → Calls Try.prog 23 #[] w1 fun e w' => e = .returned (.bool true) ∧ Hid (Dsk w' T 0 q p (newM 1048576)) ∧ Hid (Below W.heap.size W w') := fun w1 q p h bb => by
    refine (knows_is w1).mono ?_
    rintro e w2 ⟨rfl, b2⟩
    exact ⟨rfl, hid (h.out.below b2), hid (bb.out.trans (b2.mono bb.out.size))⟩
  have PS : ∀ w1 q p (tg : Nat × Nat), Hid (Dsk w1 T 0 q p (newM 1048576)) → Hid (Below W.heap.size W w1) → Calls Try.prog 27 #[.pointer (some ⟨q, 0, none⟩), .slice (some ⟨w1.heap.size, 0, none⟩) 5 5] (w1.alloc (.cells #[.int .u8 102, .int .u8 105, .int .u8 114, .int .u8 115, .int .u8 116] 5 tg)) fun e w' => e = .returned (.int .i64 0) ∧ Hid (Dsk w' T 14 q p F5) ∧ Hid (Below W.heap.size W w') := fun w1 q p tg h bb => by
    have hs := bb.out.size
    have hl := (h.out.re (T' := fun k => W.heap.size ≤ k ∧ k ≠ w1.heap.size) (fun k hk hlt => ⟨by rw [hTd] at hk; exact hk, Nat.ne_of_lt hlt⟩)).below ((Below.refl _ w1).alloc (Nat.le_refl _) (.cells #[.int .u8 102, .int .u8 105, .int .u8 114, .int .u8 115, .int .u8 116] 5 tg))
    refine (swap_first hl (fun k hk => by rw [World.size_alloc] at hk; exact ⟨by omega, by omega⟩) (rd_first w1 tg) (fun _ x hx hk => by injection hx with hx; exact hk.2 hx.symm)).mono ?_
    rintro e w2 ⟨rfl, D, t⟩
    refine ⟨rfl, hid ((D.re (fun k hk _ => by rw [hTd]; exact hk.1)).up (by omega) (by omega)), hid ((bb.out.alloc hs _).trans (tch_up (t.mono (fun k hk => hk.1)) (by rw [World.size_alloc]; omega)))⟩
  have ROW : Hid (∀ i (hi : i < l.length), ∃ b1 off, A1 = some ⟨b1, off, none⟩ ∧ SwOk W W.heap.size l[i] ∧ ∀ wr, Below W.heap.size W wr → ∀ k u, k < 5 → l[i].cells[k]? = some u → wr.cell? ⟨b1, off + i * 5 + k, none⟩ = some u) := hid (fun i hi => by
    obtain ⟨b1, off, hA, hlt, hlt2, hc⟩ := hrow (by omega)
    obtain ⟨c1, c2⟩ := hc i hi
    exact ⟨b1, off, hA, c2, fun wr bb k u hk hu => (bb.cell (p := ⟨b1, off + i * 5 + k, none⟩) hlt2).trans (by rw [Nat.add_assoc]; exact c1 k u hk hu)⟩)
  have OKA : ∀ (x : SwD), SwOk W W.heap.size x → ∀ wr, Below W.heap.size W wr → SwOk wr W.heap.size x := fun x ok wr bb => ok.touch (S := fun k => W.heap.size ≤ k) ⟨bb.os, bb.tape, bb.output, bb.size, fun k hk hn => bb.block k (by have : ¬ W.heap.size ≤ k := hn; omega)⟩ (fun k hk => hk)
  have HTD := hid hTd
  have HTW := hid hTW
  clear hrow hTd hTW
  have hs0 : Hid (Setl b1 F5) := hid setl0
  have hnow : Value.string { data := #[102, 105, 114, 115, 116] } = .string (strB b1) := rfl
  have HNOW := hid hnow
  clear hnow
  have kc := fun (w : World) (C : Array Value) (n c : Nat) => Lib.run_convert_bytes_const (P := Try.prog) w 22 5 C n c Try.underlying22 Try.underlying5
  go_enter Try.func6, Try.ntmps6
  go_wp2_with (first
    | (go_at_call 24; refine hN.mono ?_; rintro e w1 ⟨q, p, rfl, D1, B1⟩; clear hN)
    | (go_at_call 23; refine (PK _ q p D1 B1).mono ?_; rintro e w2 ⟨rfl, D2, B2⟩; clear PK)
    | (go_at_call 27; with_reducible refine (PS _ q p _ D2 B2).mono ?_; rintro e w3 ⟨rfl, D3, B3⟩; clear PS)
    | (go_at_call 12; refine (num_is _ _).mono ?_; rintro e wn ⟨rfl, hwn⟩; have hwn := hwn.symm; subst hwn))
  go_loopw [5, 6] (fun nv iv wr => ∃ (i : Nat) (x : List Nat) (M : DM), nv = .string (strB x) ∧ iv = .int .i64 i ∧ i ≤ l.length ∧ i ≤ 60 ∧ Hid (x.length ≤ 500) ∧ Hid (Setl x M) ∧ Hid (Dsk wr T (14 * (i + 1)) q p M) ∧ Hid (Below W.heap.size W wr)) (fun _ iv _ => l.length - (intOf iv).toNat)
  case atStart => exact ⟨0, b1, F5, rfl, rfl, by omega, by omega, hid (by decide), hs0, D3, B3⟩
  case round =>
    obtain ⟨i, x, M, rfl, rfl, hi, hi2, HX, HS, HD, HB⟩ := hrel
    clear D1 B1 D2 B2 D3 B3 hs0 kc
    by_cases hLt : i < l.length ∧ i < 60
    · have hil : (i : Int) < (l.length : Int) := by omega
      have hil2 : (i : Int) < 60 := by omega
      obtain ⟨b7, off, hA, ok, hc⟩ := ROW.out i hLt.1
      subst hA
      obtain ⟨ol, hol⟩ : ∃ ol, l[i]'hLt.1 = ol := ⟨_, rfl⟩
      rw [hol] at ok hc
      have HL := hid hLt
      have q0 : wr.cell? ⟨b7, off + i * 5, none⟩ = some (.slice ol.A ol.bs.length ol.C) := hc wr HB.out 0 (.slice ol.A ol.bs.length ol.C) (by decide) rfl
      have q1 := hc wr HB.out 1 (.int .i64 ol.fz) (by decide) rfl
      have q2 := hc wr HB.out 2 (.int .i64 ol.fl) (by decide) rfl
      have q3 := hc wr HB.out 3 (.bool ol.y) (by decide) rfl
      have q4 := hc wr HB.out 4 (.slice ol.A2 ol.ks.length ol.C2) (by decide) rfl
      clear hc hol hLt
      have okr := OKA ol ok wr HB.out
      have hws := HB.out.size
      have SET : ∀ (Wb : World) (b : List Nat), Below wr.heap.size wr Wb → Wb.heap[wr.heap.size]? = some (.cells #[.slice ol.A b.length ol.C, .int .i64 ol.fz, .int .i64 ol.fl, .bool ol.y, .slice ol.A2 ol.ks.length ol.C2] 56 (0, 0)) → wr.heap.size + 1 ≤ Wb.heap.size → KB.Rd Wb (.slice ol.A b.length ol.C) b → b.length ≤ ol.bs.length → b.length ≤ 500 → ∃ S : Nat → Prop,
          (∀ w1, Hid (Tch S Wb w1) → w1.cell? ⟨wr.heap.size, 0, none⟩ = some (.slice ol.A b.length ol.C) ∧ w1.cell? ⟨wr.heap.size, 1, none⟩ = some (.int .i64 ol.fz) ∧ w1.cell? ⟨wr.heap.size, 2, none⟩ = some (.int .i64 ol.fl) ∧ w1.cell? ⟨wr.heap.size, 3, none⟩ = some (.bool ol.y) ∧ w1.cell? ⟨wr.heap.size, 4, none⟩ = some (.slice ol.A2 ol.ks.length ol.C2)) ∧
          (∀ k, k ≤ 9223372036854775807 → Calls Try.prog 9 #[.pointer (some ⟨q, 0, none⟩), .int .i64 k] Wb fun e w' => e = .returned (.tuple #[]) ∧ Hid (Dsk w' S (14 * (i + 1)) q p (cutM M k)) ∧ Hid (Tch S Wb w')) ∧
          (∀ w1 M1 k d, k ≤ 9223372036854775807 → Hid (Dsk w1 S (14 * (i + 1)) q p M1) → Hid (Tch S Wb w1) → Calls Try.prog 8 #[.pointer (some ⟨q, 0, none⟩), .int .i64 k, .bool d] w1 fun e w' => e = .returned (.tuple #[]) ∧ Hid (Dsk w' S (14 * (i + 1)) q p (failM M1 k d)) ∧ Hid (Tch S Wb w')) ∧
          (∀ w1 kc kf d, Hid (Dsk w1 S (14 * (i + 1)) q p (failM (cutM M kc) kf d)) → Hid (Tch S Wb w1) → Calls Try.prog 27 #[.pointer (some ⟨q, 0, none⟩), .slice ol.A b.length ol.C] w1 fun e w' => ∃ er M', e = .returned (.int .i64 er) ∧ Hid (SwapEnd x b er M') ∧ Hid (Dsk w' S (14 * (i + 1) + 14) q p M') ∧ Hid (Tch S Wb w')) ∧
          (∀ w1 M', Hid (Dsk w1 S (14 * (i + 1) + 14) q p M') → Hid (Tch S Wb w1) → Calls Try.prog 10 #[.pointer (some ⟨q, 0, none⟩), .slice ol.A2 ol.ks.length ol.C2] w1 fun e w' => e = .returned (.tuple #[]) ∧ Hid (Dsk w' S (14 * (i + 1) + 14) q p (crashM M' ol.ks)) ∧ Hid (Tch S Wb w')) ∧
          (∀ w1 M' y, Hid (Setl y M') → Hid (Dsk w1 S (14 * (i + 1) + 14) q p M') → Hid (Tch S Wb w1) → Calls Try.prog 11 #[.pointer (some ⟨q, 0, none⟩), .string ⟨#[105, 116]⟩] w1 fun e w' => ∃ A C L, e = .returned (.tuple #[.slice A L C, .int .i64 0]) ∧ (convert 22 9 (.slice A L C)).run Try.prog w' = .ok (.string (strB y)) w' ∧ (convert 22 9 (.slice ol.A b.length ol.C)).run Try.prog w' = .ok (.string (strB b)) w' ∧ Hid (Dsk w' T (14 * (i + 1 + 1)) q p M') ∧ Hid (Below W.heap.size W w') ∧ Hid (Tch S Wb w')) := fun Wb b hbel hrow hsz hb hbl hb5 => by
        have hTk : ∀ k, T k ↔ W.heap.size ≤ k := fun k => by rw [HTD.out]
        obtain ⟨S, hSk⟩ : ∃ S : Nat → Prop, ∀ k, S k ↔ ((W.heap.size ≤ k ∧ k < wr.heap.size) ∨ wr.heap.size < k) := ⟨fun k => (W.heap.size ≤ k ∧ k < wr.heap.size) ∨ wr.heap.size < k, fun k => Iff.rfl⟩
        have hnew : ∀ w1, Tch S Wb w1 → ∀ k, w1.heap.size ≤ k → S k := fun w1 t k hk => (hSk k).2 (.inr (by have := t.size; omega))
        have hup : ∀ k, S k → W.heap.size ≤ k := fun k hk => by
          rcases (hSk k).1 hk with h | h <;> omega
        have hfar : ∀ k, k < W.heap.size → ¬ S k := fun k hk h => by
          have := hup k h
          omega
        have hD : Dsk Wb S (14 * (i + 1)) q p M := (HD.out.re (fun k a b => (hSk k).2 (.inl ⟨(hTk k).1 a, b⟩))).below hbel
        have hbB : 0 < b.length → ∀ z, (Value.slice ol.A b.length ol.C).ownBlock = some z → z < W.heap.size := fun h0 z hz => ok.bB (by omega) z (by
          rw [← hz]
          unfold SwD.bv
          cases ol.A <;> rfl)
        refine ⟨S, ?_, ?_, ?_, ?_, ?_, ?_⟩
        · intro w1 t
          have hr := t.out.row hrow (by intro h; rcases (hSk _).1 h with h | h <;> omega)
          exact ⟨held_cell hr rfl, held_cell hr rfl, held_cell hr rfl, held_cell hr rfl, held_cell hr rfl⟩
        · intro k hk
          exact (Cut_d hD k hk).mono fun e w' h => ⟨h.1, hid h.2.1, hid h.2.2⟩
        · intro w1 M1 k d hk h t
          exact (Fail_d h.out k d hk).mono fun e w' h => ⟨h.1, hid h.2.1, hid (t.out.trans h.2.2)⟩
        · intro w1 kc kf d h t
          refine (swap_is h.out (hnew w1 t.out) (rd_touch hb t.out (fun h0 z hz => hfar z (hbB h0 z hz))) hb5 HX.out (fun h0 z hz => hfar z (hbB h0 z hz)) (HS.out.pre (max kc (-1)) (max kf 0) d) (by omega)).mono ?_
          rintro e w' ⟨er, M', rfl, hE, D, t2⟩
          exact ⟨er, M', rfl, hid hE, hid D, hid (t.out.trans t2)⟩
        · intro w1 M' h t
          have hk := rd_touch (okr.kr.below hbel) t.out (fun h0 z hz => hfar z (ok.kB h0 z hz))
          refine (Crash_d h.out (hnew w1 t.out) (by omega) hk (fun h0 z hz => hfar z (ok.kB h0 z hz))).mono ?_
          rintro e w' ⟨rfl, D, t2⟩
          exact ⟨rfl, hid D, hid (t.out.trans t2)⟩
        · intro w1 M' y hs h t
          refine (Read_d h.out kI (by decide)).mono ?_
          rw [hs.out.read]
          rintro e w' ⟨A, C, rfl, ow, b2⟩
          have t2 := t.out.trans (below_tch b2)
          exact ⟨A, C, _, rfl, conv_kb ow.rd, conv_kb (rd_touch hb t2 (fun h0 z hz => hfar z (hbB h0 z hz))), hid (((h.out.below b2).re (fun k hk _ => (hTk k).2 (hup k hk))).up (by omega) (by omega)), hid ((HB.out.trans (hbel.mono hws)).trans (tch_up (t2.mono hup) (by omega))), hid t2⟩
      by_cases h5 : 500 < ol.bs.length
      · obtain ⟨b, hbe⟩ : ∃ b, b = ol.bs.take 500 := ⟨_, rfl⟩
        have hbl : b.length = 500 := by rw [hbe, List.length_take]; omega
        have hbel : Below wr.heap.size wr (wr.alloc (.cells #[.slice ol.A 500 ol.C, .int .i64 ol.fz, .int .i64 ol.fl, .bool ol.y, .slice ol.A2 ol.ks.length ol.C2] 56)) := (Below.refl _ wr).alloc (Nat.le_refl _) _
        have hrow := heap_alloc_new wr (.cells #[.slice ol.A 500 ol.C, .int .i64 ol.fz, .int .i64 ol.fl, .bool ol.y, .slice ol.A2 ol.ks.length ol.C2] 56)
        have hbr : KB.Rd wr (.slice ol.A b.length ol.C) b := by
          have h := okr.br
          unfold SwD.bv at h
          rw [← List.take_append_drop 500 ol.bs, ← hbe] at h
          exact h.front
        have hcap : 500 ≤ ol.C := by
          obtain ⟨A', c', hv, hc'⟩ := okr.br.form
          injection hv with _ _ hv
          omega
        obtain ⟨S, hC, PCu, PFa, PSw, PCr, PRe⟩ := SET _ b hbel (by rw [hbl]; exact hrow) (Nat.le_of_eq (World.size_alloc _ _).symm) (hbr.below hbel) (by omega) (by omega)
        have hbl5 := hid (show b.length ≤ 500 by omega)
        simp only [hbl] at hC PSw PRe
        clear SET hbel okr OKA hrow hbr hbe hbl
        obtain ⟨c0, c1, c2, c3, c4⟩ := hC _ (hid (Tch.refl S _))
        go_wp2_with (first
          | (go_at_call 9; with_reducible refine (PCu _ (w64_le _)).mono ?_; rintro e w1 ⟨rfl, D1, t1⟩; obtain ⟨c0, c1, c2, c3, c4⟩ := hC w1 t1; clear PCu)
          | (go_at_call 8; with_reducible refine (PFa _ _ _ _ (tm_le _) D1 t1).mono ?_; rintro e w2 ⟨rfl, D2, t2⟩; obtain ⟨c0, c1, c2, c3, c4⟩ := hC w2 t2; clear PFa)
          | (go_at_call 27; with_reducible refine (PSw _ _ _ _ D2 t2).mono ?_; rintro e w3 ⟨er, M3, rfl, E3, D3, t3⟩; obtain ⟨c0, c1, c2, c3, c4⟩ := hC w3 t3; clear PSw; obtain ⟨y, HSy, HYl, hsp⟩ := swap_split E3.out HX.out hbl5.out ol.ks; rcases hsp with ⟨rfl, he⟩ | ⟨rfl, he⟩ | ⟨rfl, he, hne⟩ | ⟨rfl, he⟩ | ⟨rfl, he, hne⟩)
          | (go_at_call 10; with_reducible refine (PCr _ _ D3 t3).mono ?_; rintro e w4 ⟨rfl, D4, t4⟩; obtain ⟨c0, c1, c2, c3, c4⟩ := hC w4 t4; clear PCr)
          | (go_at_call 11; with_reducible refine (PRe _ _ _ HSy D4 t4).mono ?_; rintro e w5 ⟨A5, C5, L5, rfl, cy, cb, D5, B5, t5⟩; rw [he.out] at cy; obtain ⟨c0, c1, c2, c3, c4⟩ := hC w5 t5; clear PRe)
          | (go_at_call 12; refine (num_is _ _).mono ?_; rintro e wn ⟨rfl, hwn⟩; have hwn := hwn.symm; subst hwn))
        all_goals (
          go_roundw
          case rel => exact ⟨i + 1, y, _, congrArg Value.string he.out.symm, by go_num, HL.out.1, HL.out.2, HYl, HSy, D5, B5⟩
          case measure => have := HL.out.1; simp [intOf]; omega)
      · have hbel : Below wr.heap.size wr (wr.alloc (.cells #[.slice ol.A ol.bs.length ol.C, .int .i64 ol.fz, .int .i64 ol.fl, .bool ol.y, .slice ol.A2 ol.ks.length ol.C2] 56)) := (Below.refl _ wr).alloc (Nat.le_refl _) _
        obtain ⟨S, hC, PCu, PFa, PSw, PCr, PRe⟩ := SET (wr.alloc (.cells #[.slice ol.A ol.bs.length ol.C, .int .i64 ol.fz, .int .i64 ol.fl, .bool ol.y, .slice ol.A2 ol.ks.length ol.C2] 56)) ol.bs hbel (heap_alloc_new wr _) (Nat.le_of_eq (World.size_alloc _ _).symm) (okr.br.below hbel) (Nat.le_refl _) (by omega)
        clear SET hbel okr OKA
        obtain ⟨c0, c1, c2, c3, c4⟩ := hC _ (hid (Tch.refl S _))
        go_wp2_with (first
          | (go_at_call 9; with_reducible refine (PCu _ (w64_le _)).mono ?_; rintro e w1 ⟨rfl, D1, t1⟩; obtain ⟨c0, c1, c2, c3, c4⟩ := hC w1 t1; clear PCu)
          | (go_at_call 8; with_reducible refine (PFa _ _ _ _ (tm_le _) D1 t1).mono ?_; rintro e w2 ⟨rfl, D2, t2⟩; obtain ⟨c0, c1, c2, c3, c4⟩ := hC w2 t2; clear PFa)
          | (go_at_call 27; with_reducible refine (PSw _ _ _ _ D2 t2).mono ?_; rintro e w3 ⟨er, M3, rfl, E3, D3, t3⟩; obtain ⟨c0, c1, c2, c3, c4⟩ := hC w3 t3; clear PSw; obtain ⟨y, HSy, HYl, hsp⟩ := swap_split E3.out HX.out (by omega) ol.ks; rcases hsp with ⟨rfl, he⟩ | ⟨rfl, he⟩ | ⟨rfl, he, hne⟩ | ⟨rfl, he⟩ | ⟨rfl, he, hne⟩)
          | (go_at_call 10; with_reducible refine (PCr _ _ D3 t3).mono ?_; rintro e w4 ⟨rfl, D4, t4⟩; obtain ⟨c0, c1, c2, c3, c4⟩ := hC w4 t4; clear PCr)
          | (go_at_call 11; with_reducible refine (PRe _ _ _ HSy D4 t4).mono ?_; rintro e w5 ⟨A5, C5, L5, rfl, cy, cb, D5, B5, t5⟩; rw [he.out] at cy; obtain ⟨c0, c1, c2, c3, c4⟩ := hC w5 t5; clear PRe)
          | (go_at_call 12; refine (num_is _ _).mono ?_; rintro e wn ⟨rfl, hwn⟩; have hwn := hwn.symm; subst hwn))
        all_goals (
          go_roundw
          case rel => exact ⟨i + 1, y, _, congrArg Value.string he.out.symm, by go_num, HL.out.1, HL.out.2, HYl, HSy, D5, B5⟩
          case measure => have := HL.out.1; simp [intOf]; omega)
    · by_cases h1 : i < l.length
      · have hil : (i : Int) < (l.length : Int) := by omega
        have hil2 : ¬ (i : Int) < 60 := by omega
        go_wp2
        go_ret
        exact ⟨rfl, HB.out⟩
      · have hil : ¬ (i : Int) < (l.length : Int) := by omega
        go_wp2
        go_ret
        exact ⟨rfl, HB.out⟩
end Go.Proofs.Ytjpneohachkheaa
