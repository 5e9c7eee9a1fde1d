/-
  The library's heap over the heads: down, up, Init, Pop, Push. Conditions: those that each theorem names.
-/
import Derived.Test.YtcffagfkpkfgbaaMgp
namespace Go.Proofs.Ytcffagfkpkfgbaa
open Go.RowKit Go.Icz
/-- A heap's pointer as an interface's value. -/
def hpI (q : Nat) : Value := .iface 60 (.pointer (some ⟨q, 0, none⟩))
theorem mLess (p : Option Addr) (w : World) : (method 202 60 (.pointer p) "Less").run Try.prog w = .ok (54, .pointer p) w := by kernel_rfl
theorem mSwap (p : Option Addr) (w : World) : (method 202 60 (.pointer p) "Swap").run Try.prog w = .ok (57, .pointer p) w := by kernel_rfl
theorem mLen (p : Option Addr) (w : World) : (method 202 60 (.pointer p) "Len").run Try.prog w = .ok (22, .pointer p) w := by kernel_rfl
theorem mPop (p : Option Addr) (w : World) : (method 202 60 (.pointer p) "Pop").run Try.prog w = .ok (55, .pointer p) w := by kernel_rfl
theorem mPush (p : Option Addr) (w : World) : (method 202 60 (.pointer p) "Push").run Try.prog w = .ok (56, .pointer p) w := by kernel_rfl
/-- The place i has sunk: what stands now. -/
def Sunk (W0 w : World) (q : Nat) (rs : List Value) (nb : Bool) (v : Value) (l : List HR) (n s : Nat) (w' : World) : Prop :=
  ∃ m, Hp W0 w' q rs nb v m ∧ m.Perm l ∧ HpF (hlt nb) m n s ∧ (∀ k, n ≤ k → m[k]? = l[k]?) ∧ Fr (· = q) w w'
set_option maxRecDepth 100000 in
set_option maxHeartbeats 4000000 in
theorem down_is {W0 w : World} {q : Nat} {rs : List Value} {nb : Bool} {v : Value} {l : List HR} (h : Hp W0 w q rs nb v l) (s n : Nat) (hn : n ≤ l.length) (hs : s ≤ n) (hd : HpF (hlt nb) l n (s + 1)) :
    Calls Try.prog 32 #[hpI q, .int .i64 s, .int .i64 n] w fun e w' => (∃ b, e = .returned (.bool b)) ∧ Sunk W0 w q rs nb v l n s w' := by
  have hlen := h.len
  have HD := hid hd
  clear hd
  unfold hpI
  have m1 := mLess
  have m2 := mSwap
  go_enter Try.func32, Try.ntmps32
  go_wp2
  go_loopw [7] (fun iv wr => ∃ (i : Nat) (m : List HR), iv = .int .i64 i ∧ s ≤ i ∧ i ≤ n ∧ Hp W0 wr q rs nb v m ∧ Hid (m.Perm l ∧ HpD (hlt nb) m n s i ∧ ∀ k, n ≤ k → m[k]? = l[k]?) ∧ Fr (· = q) w wr) (fun iv _ => n - (intOf iv).toNat)
  case atStart => exact ⟨s, l, rfl, Nat.le_refl _, hs, h, hid ⟨List.Perm.refl _, HpD.start HD.out, fun _ _ => rfl⟩, Fr.refl _ _⟩
  case round =>
    obtain ⟨i, m, rfl, hsi, hin, hm, HM, hf⟩ := hrel
    have hml : m.length = l.length := HM.out.1.length_eq
    obtain ⟨a, ha⟩ : ∃ a, a = 2 * i + 1 := ⟨_, rfl⟩
    obtain ⟨b, hb⟩ : ∃ b, b = a + 1 := ⟨_, rfl⟩
    have e1 : 2 * (i : Int) + 1 = (a : Int) := by omega
    have e2 : (a : Int) + 1 = (b : Int) := by omega
    have bi : (i : Int) ≤ 1099511627776 := by omega
    have ba : (a : Int) ≤ 4398046511104 := by omega
    have bb : (b : Int) ≤ 4398046511104 := by omega
    by_cases h1 : a < n
    · have h1I : ¬ (n : Int) ≤ (a : Int) := by omega
      have h1p : ¬ (a : Int) < 0 := by omega
      have gA : m[a]? = some m[a] := List.getElem?_eq_getElem (by omega)
      by_cases h2 : b < n
      · have h2I : (b : Int) < (n : Int) := by omega
        have gB : m[b]? = some m[b] := List.getElem?_eq_getElem (by omega)
        have L1 := Less_is hm b a (by omega) (by omega)
        cases hr1 : hlt nb m[b] m[a] with
        | true =>
          rw [hr1] at L1
          have KA : ∀ k z, k = a → m[k]? = some z → hlt nb m[b] m[i] = false → hlt nb z m[i] = false := fun k z hk hz hr => by
            subst hk; rw [gA] at hz; injection hz with hz; subst hz; exact (ord_hlt nb).nt _ _ _ ((ord_hlt nb).asym _ _ hr1) hr
          have KB : ∀ k z, k < n → k = b → m[k]? = some z → hlt nb m[b] m[i] = false → hlt nb z m[i] = false := fun k z _ hk hz hr => by
            subst hk; rw [gB] at hz; injection hz with hz; subst hz; exact hr
          have JA : ∀ k z, k = a → k ≠ b → m[k]? = some z → hlt nb z m[b] = false := fun k z hk _ hz => by
            subst hk; rw [gA] at hz; injection hz with hz; subst hz; exact (ord_hlt nb).asym _ _ hr1
          have JB : ∀ k z, k < n → k = b → k ≠ b → m[k]? = some z → hlt nb z m[b] = false := fun k z _ hk hne _ => absurd hk hne
          clear hr1 gA gB
          have hjm : b < m.length := by omega
          have him : i < m.length := by omega
          have gi : m[i]? = some m[i] := List.getElem?_eq_getElem him
          have gj : m[b]? = some m[b] := List.getElem?_eq_getElem hjm
          have L2 := fun w1 (hw : Hp W0 w1 q rs nb v m) => Less_is hw b i hjm him
          have Sw := fun w1 (hw : Hp W0 w1 q rs nb v m) => Swap_is hw i b him hjm
          have rowS := fun w1 (hw : Hp W0 w1 q rs nb v m) k (hk : v.ownBlock = some k) => hw.isRow hk
          have PJ := hid (show (b - 1) / 2 = i ∧ 0 < b ∧ i < b ∧ b < n ∧ i < n from ⟨by omega, by omega, by omega, by omega, by omega⟩)
          have GI := hid gi
          have GJ := hid gj
          clear gi gj
          cases hr2 : hlt nb m[b] m[i] with
          | false =>
            have R2 := hid hr2
            rw [hr2] at L2
            clear hr2
            have HM2 := HM.out
            have FIN : Hid (HpF (hlt nb) m n s) := hid (HM2.2.1.stop GI.out (by intro k z hk h0 hp hz; exact (show k = a ∨ k = b by omega).elim (fun e => KA k z e hz R2.out) (fun e => KB k z hk e hz R2.out)))
            clear HM2 KA KB JA JB
            clear ha hb hml
            have t1 := True.intro
            have t2 := True.intro
            go_wp2_with (first
              | (clear t1; go_at_call 54; refine L1.mono ?_; rintro e w1 ⟨rfl, b1⟩; have hm1 := hm.below b1; have f1 := hf.trans (Fr.of_below b1); clear L1)
              | (clear t2; go_at_call 54; refine (L2 _ hm1).mono ?_; rintro e w2 ⟨rfl, b2⟩; have hm2 := hm1.below b2; have f2 := f1.trans (Fr.of_below b2); clear L2))
            go_ret
            exact ⟨⟨_, rfl⟩, m, hm2, HM.out.1, FIN.out, HM.out.2.2, f2⟩
          | true =>
            have R2 := hid hr2
            rw [hr2] at L2
            clear hr2
            have HM2 := HM.out
            have FIN : Hid (HpD (hlt nb) (swp m i b) n s b) := hid (HM2.2.1.step (ord_hlt nb) hsi GI.out GJ.out PJ.out.1 PJ.out.2.1 PJ.out.2.2.2.1 R2.out (by intro k z hk h0 hp hne hz; exact (show k = a ∨ k = b by omega).elim (fun e => JA k z e hne hz) (fun e => JB k z hk e hne hz)))
            have OUT : Hid (∀ k, n ≤ k → (swp m i b)[k]? = l[k]?) := hid (by intro k hk; rw [swp_get GI.out GJ.out, if_neg (by omega), if_neg (by omega)]; exact HM2.2.2 k hk)
            clear HM2 KA KB JA JB
            clear ha hb hml
            have t1 := True.intro
            have t2 := True.intro
            go_wp2_with (first
              | (clear t1; go_at_call 54; refine L1.mono ?_; rintro e w1 ⟨rfl, b1⟩; have hm1 := hm.below b1; have f1 := hf.trans (Fr.of_below b1); clear L1)
              | (clear t2; go_at_call 54; refine (L2 _ hm1).mono ?_; rintro e w2 ⟨rfl, b2⟩; have hm2 := hm1.below b2; have f2 := f1.trans (Fr.of_below b2); clear L2)
              | (go_at_call 57; refine (Sw _ hm2).mono ?_; rintro e w3 ⟨rfl, hm3, t3⟩; have f3 := f2.trans (Fr.of_tch t3 (fun k hk => .inr (rowS _ hm2 k hk))); clear Sw))
            go_roundw
            case rel => exact ⟨b, swp m i b, rfl, by have := PJ.out; omega, by have := PJ.out; omega, hm3, hid ⟨(swp_perm _ _ _).trans HM.out.1, FIN.out, OUT.out⟩, f3⟩
            case measure => have := PJ.out; simp [intOf]; omega
        | false =>
          rw [hr1] at L1
          have KA : ∀ k z, k = a → m[k]? = some z → hlt nb m[a] m[i] = false → hlt nb z m[i] = false := fun k z hk hz hr => by
            subst hk; rw [gA] at hz; injection hz with hz; subst hz; exact hr
          have KB : ∀ k z, k < n → k = b → m[k]? = some z → hlt nb m[a] m[i] = false → hlt nb z m[i] = false := fun k z _ hk hz hr => by
            subst hk; rw [gB] at hz; injection hz with hz; subst hz; exact (ord_hlt nb).nt _ _ _ hr1 hr
          have JA : ∀ k z, k = a → k ≠ a → m[k]? = some z → hlt nb z m[a] = false := fun k z hk hne _ => absurd hk hne
          have JB : ∀ k z, k < n → k = b → k ≠ a → m[k]? = some z → hlt nb z m[a] = false := fun k z _ hk _ hz => by
            subst hk; rw [gB] at hz; injection hz with hz; subst hz; exact hr1
          clear hr1 gA gB
          have hjm : a < m.length := by omega
          have him : i < m.length := by omega
          have gi : m[i]? = some m[i] := List.getElem?_eq_getElem him
          have gj : m[a]? = some m[a] := List.getElem?_eq_getElem hjm
          have L2 := fun w1 (hw : Hp W0 w1 q rs nb v m) => Less_is hw a i hjm him
          have Sw := fun w1 (hw : Hp W0 w1 q rs nb v m) => Swap_is hw i a him hjm
          have rowS := fun w1 (hw : Hp W0 w1 q rs nb v m) k (hk : v.ownBlock = some k) => hw.isRow hk
          have PJ := hid (show (a - 1) / 2 = i ∧ 0 < a ∧ i < a ∧ a < n ∧ i < n from ⟨by omega, by omega, by omega, by omega, by omega⟩)
          have GI := hid gi
          have GJ := hid gj
          clear gi gj
          cases hr2 : hlt nb m[a] m[i] with
          | false =>
            have R2 := hid hr2
            rw [hr2] at L2
            clear hr2
            have HM2 := HM.out
            have FIN : Hid (HpF (hlt nb) m n s) := hid (HM2.2.1.stop GI.out (by intro k z hk h0 hp hz; exact (show k = a ∨ k = b by omega).elim (fun e => KA k z e hz R2.out) (fun e => KB k z hk e hz R2.out)))
            clear HM2 KA KB JA JB
            clear ha hb hml
            have t1 := True.intro
            have t2 := True.intro
            go_wp2_with (first
              | (clear t1; go_at_call 54; refine L1.mono ?_; rintro e w1 ⟨rfl, b1⟩; have hm1 := hm.below b1; have f1 := hf.trans (Fr.of_below b1); clear L1)
              | (clear t2; go_at_call 54; refine (L2 _ hm1).mono ?_; rintro e w2 ⟨rfl, b2⟩; have hm2 := hm1.below b2; have f2 := f1.trans (Fr.of_below b2); clear L2))
            go_ret
            exact ⟨⟨_, rfl⟩, m, hm2, HM.out.1, FIN.out, HM.out.2.2, f2⟩
          | true =>
            have R2 := hid hr2
            rw [hr2] at L2
            clear hr2
            have HM2 := HM.out
            have FIN : Hid (HpD (hlt nb) (swp m i a) n s a) := hid (HM2.2.1.step (ord_hlt nb) hsi GI.out GJ.out PJ.out.1 PJ.out.2.1 PJ.out.2.2.2.1 R2.out (by intro k z hk h0 hp hne hz; exact (show k = a ∨ k = b by omega).elim (fun e => JA k z e hne hz) (fun e => JB k z hk e hne hz)))
            have OUT : Hid (∀ k, n ≤ k → (swp m i a)[k]? = l[k]?) := hid (by intro k hk; rw [swp_get GI.out GJ.out, if_neg (by omega), if_neg (by omega)]; exact HM2.2.2 k hk)
            clear HM2 KA KB JA JB
            clear ha hb hml
            have t1 := True.intro
            have t2 := True.intro
            go_wp2_with (first
              | (clear t1; go_at_call 54; refine L1.mono ?_; rintro e w1 ⟨rfl, b1⟩; have hm1 := hm.below b1; have f1 := hf.trans (Fr.of_below b1); clear L1)
              | (clear t2; go_at_call 54; refine (L2 _ hm1).mono ?_; rintro e w2 ⟨rfl, b2⟩; have hm2 := hm1.below b2; have f2 := f1.trans (Fr.of_below b2); clear L2)
              | (go_at_call 57; refine (Sw _ hm2).mono ?_; rintro e w3 ⟨rfl, hm3, t3⟩; have f3 := f2.trans (Fr.of_tch t3 (fun k hk => .inr (rowS _ hm2 k hk))); clear Sw))
            go_roundw
            case rel => exact ⟨a, swp m i a, rfl, by have := PJ.out; omega, by have := PJ.out; omega, hm3, hid ⟨(swp_perm _ _ _).trans HM.out.1, FIN.out, OUT.out⟩, f3⟩
            case measure => have := PJ.out; simp [intOf]; omega
      · have h2I : ¬ (b : Int) < (n : Int) := by omega
        have KA : ∀ k z, k = a → m[k]? = some z → hlt nb m[a] m[i] = false → hlt nb z m[i] = false := fun k z hk hz hr => by
          subst hk; rw [gA] at hz; injection hz with hz; subst hz; exact hr
        have KB : ∀ k z, k < n → k = b → m[k]? = some z → hlt nb m[a] m[i] = false → hlt nb z m[i] = false := fun k z hk he _ _ => absurd (he ▸ hk) h2
        have JA : ∀ k z, k = a → k ≠ a → m[k]? = some z → hlt nb z m[a] = false := fun k z hk hne _ => absurd hk hne
        have JB : ∀ k z, k < n → k = b → k ≠ a → m[k]? = some z → hlt nb z m[a] = false := fun k z hk he _ _ => absurd (he ▸ hk) h2
        clear gA
        have hjm : a < m.length := by omega
        have him : i < m.length := by omega
        have gi : m[i]? = some m[i] := List.getElem?_eq_getElem him
        have gj : m[a]? = some m[a] := List.getElem?_eq_getElem hjm
        have L2 := fun w1 (hw : Hp W0 w1 q rs nb v m) => Less_is hw a i hjm him
        have Sw := fun w1 (hw : Hp W0 w1 q rs nb v m) => Swap_is hw i a him hjm
        have rowS := fun w1 (hw : Hp W0 w1 q rs nb v m) k (hk : v.ownBlock = some k) => hw.isRow hk
        have PJ := hid (show (a - 1) / 2 = i ∧ 0 < a ∧ i < a ∧ a < n ∧ i < n from ⟨by omega, by omega, by omega, by omega, by omega⟩)
        have GI := hid gi
        have GJ := hid gj
        clear gi gj
        cases hr2 : hlt nb m[a] m[i] with
        | false =>
          have R2 := hid hr2
          rw [hr2] at L2
          clear hr2
          have HM2 := HM.out
          have FIN : Hid (HpF (hlt nb) m n s) := hid (HM2.2.1.stop GI.out (by intro k z hk h0 hp hz; exact (show k = a ∨ k = b by omega).elim (fun e => KA k z e hz R2.out) (fun e => KB k z hk e hz R2.out)))
          clear HM2 KA KB JA JB
          clear ha hb hml
          have hm1 := hm
          have f1 := hf
          have t1 := True.intro
          have t2 := True.intro
          go_wp2_with (first
            | (clear t2; go_at_call 54; refine (L2 _ hm1).mono ?_; rintro e w2 ⟨rfl, b2⟩; have hm2 := hm1.below b2; have f2 := f1.trans (Fr.of_below b2); clear L2))
          go_ret
          exact ⟨⟨_, rfl⟩, m, hm2, HM.out.1, FIN.out, HM.out.2.2, f2⟩
        | true =>
          have R2 := hid hr2
          rw [hr2] at L2
          clear hr2
          have HM2 := HM.out
          have FIN : Hid (HpD (hlt nb) (swp m i a) n s a) := hid (HM2.2.1.step (ord_hlt nb) hsi GI.out GJ.out PJ.out.1 PJ.out.2.1 PJ.out.2.2.2.1 R2.out (by intro k z hk h0 hp hne hz; exact (show k = a ∨ k = b by omega).elim (fun e => JA k z e hne hz) (fun e => JB k z hk e hne hz)))
          have OUT : Hid (∀ k, n ≤ k → (swp m i a)[k]? = l[k]?) := hid (by intro k hk; rw [swp_get GI.out GJ.out, if_neg (by omega), if_neg (by omega)]; exact HM2.2.2 k hk)
          clear HM2 KA KB JA JB
          clear ha hb hml
          have hm1 := hm
          have f1 := hf
          have t1 := True.intro
          have t2 := True.intro
          go_wp2_with (first
            | (clear t2; go_at_call 54; refine (L2 _ hm1).mono ?_; rintro e w2 ⟨rfl, b2⟩; have hm2 := hm1.below b2; have f2 := f1.trans (Fr.of_below b2); clear L2)
            | (go_at_call 57; refine (Sw _ hm2).mono ?_; rintro e w3 ⟨rfl, hm3, t3⟩; have f3 := f2.trans (Fr.of_tch t3 (fun k hk => .inr (rowS _ hm2 k hk))); clear Sw))
          go_roundw
          case rel => exact ⟨a, swp m i a, rfl, by have := PJ.out; omega, by have := PJ.out; omega, hm3, hid ⟨(swp_perm _ _ _).trans HM.out.1, FIN.out, OUT.out⟩, f3⟩
          case measure => have := PJ.out; simp [intOf]; omega
    · have h1I : (n : Int) ≤ (a : Int) := by omega
      have FIN : Hid (HpF (hlt nb) m n s) := hid (by
        by_cases hi : i < m.length
        · exact HM.out.2.1.stop (List.getElem?_eq_getElem hi) (by intro k z hk h0 hp hz; omega)
        · intro k x y hk h0 hs hx hy
          have : (k - 1) / 2 < m.length := by omega
          exact HM.out.2.1.1 k x y hk h0 hs (by omega) hx hy)
      clear ha hb hml
      go_wp2
      go_ret
      exact ⟨⟨_, rfl⟩, m, hm, HM.out.1, FIN.out, HM.out.2.2, hf⟩
end Go.Proofs.Ytcffagfkpkfgbaa
