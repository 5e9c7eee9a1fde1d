/-
  The law CacheNil, walked. Conditions: the key's size.
-/
import Derived.Test.YtflhgoecmcfkkaaCkno
namespace Go.Proofs.Ytflhgoecmcfkkaa
open Go.RowKit Go.Icz Go.Maps
set_option maxRecDepth 100000 in
set_option maxHeartbeats 4000000 in
theorem nil_walk (kd : Int) (key : ByteArray) (A : Option Addr) (n c : Nat) (W : World) (hk : key.size ≤ maxLen) :
    Calls Try.prog 4 #[.agg #[.int .i64 kd, .string key, .slice A n c]] W fun e w' => e = .returned (.bool true) ∧ Below W.heap.size W w' := by
  have hbox := heap_alloc_new W (.cells #[.int .i64 kd, .string key, .slice A n c] 34)
  have b1 : Below W.heap.size W (W.alloc (.cells #[.int .i64 kd, .string key, .slice A n c] 34)) := (Below.refl _ W).alloc (Nat.le_refl _) _
  have hlt : W.heap.size < (W.alloc (.cells #[.int .i64 kd, .string key, .slice A n c] 34)).heap.size := by simp
  have mk : ∀ w', Below (W.alloc (.cells #[.int .i64 kd, .string key, .slice A n c] 34)).heap.size (W.alloc (.cells #[.int .i64 kd, .string key, .slice A n c] 34)) w' → w'.cell? ⟨W.heap.size, 1, none⟩ = some (.string key) ∧ w'.cell? ⟨W.heap.size, 2, none⟩ = some (.slice A n c) := fun w' hb => by
    have r := (hb.block _ hlt).trans hbox
    exact ⟨held_cell r rfl, held_cell r rfl⟩
  have fin : ∀ w', Below (W.alloc (.cells #[.int .i64 kd, .string key, .slice A n c] 34)).heap.size (W.alloc (.cells #[.int .i64 kd, .string key, .slice A n c] 34)) w' → Below W.heap.size W w' := fun w' hb => b1.trans (hb.mono b1.size)
  clear hbox b1 hlt
  generalize hW1 : W.alloc (.cells #[.int .i64 kd, .string key, .slice A n c] 34) = W1 at *
  go_enter Try.func4, Try.ntmps4
  go_wp2
  go_loopw [3, 4] (fun cv iv wr => ∃ i : Nat, iv = .int .i64 i ∧ i ≤ 2 ∧ Aside (CaZ wr cv) ∧ Below W1.heap.size W1 wr) (fun _ iv _ => 2 - (intOf iv).toNat)
  case atStart => exact ⟨0, rfl, by omega, .inl rfl, Below.refl _ _⟩
  case round =>
    obtain ⟨i, rfl, hi, hz, hb⟩ := hrel
    by_cases hlt : i < 2
    · obtain ⟨x1, x2⟩ := mk wr hb
      have hlI : (i : Int) < 2 := by omega
      have G := fun w0 (hz : CaZ w0 u3) => Get_no hz key hk
      have Pk := fun w0 (hz : CaZ w0 u3) => Peek_no hz key hk
      have Hs := fun w0 (hz : CaZ w0 u3) => Hits_no (w := w0) hz
      have Pt := fun w0 (hz : CaZ w0 u3) => Put_no (w := w0) hz key (.slice A n c)
      have Dr := fun w0 (hz : CaZ w0 u3) => Drop_no hz key hk
      have Us := fun w0 (hz : CaZ w0 u3) => Used_no (w := w0) hz
      have Ks := fun w0 (hz : CaZ w0 u3) => Keys_no (w := w0) hz
      have nm := num_is 1
      go_wp2_with (first
        | (go_at_call 12; refine (G _ hz.out).mono ?_; rintro e w2 ⟨rfl, b2⟩; have z2 := hz.out.below b2; have hb2 := hb.trans (b2.mono hb.size); clear x1 x2 G; obtain ⟨x1, x2⟩ := mk _ hb2)
        | (go_at_call 13; refine (Pk _ z2).mono ?_; rintro e w3 ⟨rfl, b3⟩; have z3 := z2.below b3; have hb3 := hb2.trans (b3.mono hb2.size); clear x1 x2 Pk; obtain ⟨x1, x2⟩ := mk _ hb3)
        | (go_at_call 14; refine (Hs _ z3).mono ?_; rintro e w4 ⟨rfl, b4⟩; have z4 := z3.below b4; have hb4 := hb3.trans (b4.mono hb3.size); clear x1 x2 Hs; obtain ⟨x1, x2⟩ := mk _ hb4)
        | (go_at_call 15; refine (Pt _ z4).mono ?_; rintro e w5 ⟨rfl, h5⟩; have h5 := h5.symm; subst h5; clear Pt)
        | (go_at_call 9; refine (nm _).mono ?_; rintro e w5 ⟨rfl, h5⟩; have h5 := h5.symm; subst h5)
        | (go_at_call 16; refine (Dr _ z4).mono ?_; rintro e w6 ⟨rfl, b6⟩; have z6 := z4.below b6; have hb6 := hb4.trans (b6.mono hb4.size); clear x1 x2 Dr; obtain ⟨x1, x2⟩ := mk _ hb6)
        | (go_at_call 17; refine (Us _ z6).mono ?_; rintro e w7 ⟨rfl, b7⟩; have z7 := z6.below b7; have hb7 := hb6.trans (b7.mono hb6.size); clear x1 x2 Us; obtain ⟨x1, x2⟩ := mk _ hb7)
        | (go_at_call 18; refine (Ks _ z7).mono ?_; rintro e w8 ⟨rfl, b8⟩; have z8 := z7.below b8; have hb8 := hb7.trans (b8.mono hb7.size); clear x1 x2 Ks; obtain ⟨x1, x2⟩ := mk _ hb8))
      go_roundw
      case rel => exact ⟨i + 1, by go_num, by omega, .inr ⟨_, rfl, heap_alloc_new _ _⟩, hb8.alloc hb8.size _⟩
      case measure => simp [intOf]; omega
    · obtain rfl : i = 2 := by omega
      go_wp2_with (go_at_call 10; refine (knows_is _).mono ?_; rintro e w9 ⟨rfl, b9⟩)
      go_ret
      exact ⟨rfl, fin _ (hb.trans (b9.mono hb.size))⟩
end Go.Proofs.Ytflhgoecmcfkkaa
