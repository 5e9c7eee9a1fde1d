/-
  SimobjAtOnce's walk: what the store's calls tell is what was put last, at once. Conditions: the list is no longer than 2^20.
-/
import Derived.Test.YtpdjdmgfhfaecaaOao
namespace Go.Icz
open Go.RowKit
theorem eqw_text {M : SM} {N : AL ByteArray} (h : EqW M N) (k : ByteArray) : strB ((alook M.L k).getD []) = (alook N k).getD ⟨#[]⟩ := by
  rw [h k]
  cases alook M.L k <;> rfl
theorem bstr_ne {a b : ByteArray} (h : a ≠ b) : (a.toList == b.toList) = false := by
  rw [ByteArray.toList_eq, ByteArray.toList_eq, beq_eq_false_iff_ne]
  intro e
  exact h (ByteArray.ext (Array.ext' e))
theorem getD_of {α : Type} {o : Option α} {x : α} (h : o = some x) (d : α) : o.getD d = x := by rw [h]; rfl
end Go.Icz
namespace Go.Proofs.Ytpdjdmgfhfaecaa
open Go.RowKit Go.Icz Go.Maps Go.ChangeMaps Go.MapKept
set_option maxRecDepth 100000
set_option maxHeartbeats 8000000
theorem atonce_walk (v : Value) (l : List OpD) (W : World) (h1 : RdO W W.heap.size v l) :
    Calls Try.prog 5 #[v] W fun e W' => e = .returned (.bool true) ∧ Below W.heap.size W W' := by
  obtain ⟨A1, C1, rfl, hlb, hrow⟩ := h1
  have hN : Calls Try.prog 7 #[.int .i64 20] W fun e w' => ∃ q p, e = .returned (.tuple #[.pointer (some ⟨q, 0, none⟩), .int .i64 0]) ∧ Sto w' (fun k => W.heap.size ≤ k) 0 q p (newS 20) ∧ Below W.heap.size W w' := New_is 20 W (by decide) (fun _ h => h)
  have PK : ∀ w1 q p, Sto w1 (fun k => W.heap.size ≤ k) 0 q p (newS 20) → Below W.heap.size W w1 → Calls Try.prog 10 #[] w1 fun e w' => e = .returned (.bool true) ∧ Hid (Ij W (w'.alloc (.map #[] 0)) q p w'.heap.size 0 (newS 20) []) := fun w1 q p h bb => by
    refine (knows_is w1).mono ?_
    rintro e w2 ⟨rfl, b2⟩
    have bb2 := bb.trans (b2.mono bb.size)
    have ba := (Below.refl w2.heap.size w2).alloc (Nat.le_refl _) (.map #[] 0)
    exact ⟨rfl, hid ⟨((h.below b2).re (T' := fun k => W.heap.size ≤ k ∧ k ≠ w2.heap.size) (fun k hk hlt => ⟨hk, by omega⟩)).below ba, Wm.made w2, bb2.trans (ba.mono bb2.size), List.nodup_nil, bb2.size⟩⟩
  have ROW : Hid (∀ i (hi : i < l.length), ∃ b1 off, A1 = some ⟨b1, off, none⟩ ∧ OpOk W W.heap.size l[i] ∧ ∀ wr, Below W.heap.size W wr → ∀ k u, k < 5 → l[i].cells[k]? = some u → wr.cell? ⟨b1, off + i * 5 + k, none⟩ = some u) := hid (fun i hi => by
    obtain ⟨b1, off, hA, hlt, hlt2, hc⟩ := hrow (by omega)
    obtain ⟨c1, c2⟩ := hc i hi
    exact ⟨b1, off, hA, c2, fun wr bb k u hk hu => (bb.cell (p := ⟨b1, off + i * 5 + k, none⟩) hlt2).trans (by rw [Nat.add_assoc]; exact c1 k u hk hu)⟩)
  have HLB := hid hlb
  have HE0 := hid (EqW.new 20)
  clear hrow
  have hmm := @run_makeMap Try.prog
  go_enter Try.func5, Try.ntmps5
  go_wp2_with (first
    | (go_at_call 7; refine hN.mono ?_; rintro e w1 ⟨q, p, rfl, D1, b1⟩; clear hN)
    | (go_at_call 10; refine (PK _ q p D1 b1).mono ?_; rintro e w2 ⟨rfl, J2⟩; clear PK D1 b1)
    | (go_at_call 9; refine (num_is _ _).mono ?_; rintro e w0 ⟨rfl, hw0⟩; have hw0 := hw0.symm; subst hw0))
  go_loopw [6] (fun iv wr => ∃ (i : Nat) (M : SM) (N : AL ByteArray), iv = .int .i64 i ∧ i ≤ l.length ∧ i ≤ 200 ∧ Hid (EqW M N) ∧ Hid (Ij W wr q p w2.heap.size (2 * i) M N)) (fun iv _ => l.length - (intOf iv).toNat)
  case atStart => exact ⟨0, _, _, rfl, by omega, by omega, HE0, J2⟩
  case round =>
    obtain ⟨i, M, N, rfl, hi, hi2, HE, HJ⟩ := hrel
    by_cases hLt : i < l.length ∧ i < 200
    · have hil : (i : Int) < (l.length : Int) := by omega
      have hil2 : (i : Int) < 200 := by omega
      obtain ⟨b7, off, hA, ok, hc⟩ := ROW.out i hLt.1
      subst hA
      obtain ⟨ol, hol⟩ : ∃ ol, l[i]'hLt.1 = ol := ⟨_, rfl⟩
      rw [hol] at ok hc
      have HL := hid hLt
      have HB := HJ.out.bel
      have q0 : wr.cell? ⟨b7, off + i * 5, none⟩ = some (.int .i64 ol.kd) := hc wr HB 0 (.int .i64 ol.kd) (by decide) rfl
      have q1 := hc wr HB 1 (.string ol.nm) (by decide) rfl
      have q2 := hc wr HB 2 (.slice ol.A ol.bs.length ol.C) (by decide) rfl
      have q3 := hc wr HB 3 (.int .i64 ol.n) (by decide) rfl
      have q4 := hc wr HB 4 (.bool ol.y) (by decide) rfl
      have HI := hid (HJ.out.fresh ol)
      have hNl : N.length ≤ 4096 := by
        rw [HE.out.len HJ.out.st.2.nn HJ.out.nn]
        exact HJ.out.st.2.ln
      have HNl := hid hNl
      have ct : 2 * i + 2 ≤ 4194304 := by omega
      have ho := hid ok
      clear hc hol hLt hNl HB
      by_cases k0 : ol.kd = 0
      · rw [k0] at q0
        have hP := HI.out.put ok ct
        have hw := putW M ol.nm ol.bs
        unfold OpD.cells at hP
        rw [k0] at hP
        generalize (putM M ol.nm ol.bs).1 = f at hP hw
        generalize (putM M ol.nm ol.bs).2 = M' at hP hw
        clear HI ok ct k0
        cases hw with
        | did hf hk hoth =>
          have HR := hid (HE.out.put hoth hk)
          have hLk := fun (w3 : World) (I3 : Hid (Ih W w3 q p w2.heap.size wr.heap.size (2 * i + 2) ol M' N)) => I3.out.look ho.out (strB ol.bs) ((alook N ol.nm).getD ⟨#[]⟩) true (alook N ol.nm).isSome (by rw [hk]; rfl) (by rw [hk]; rfl) rfl rfl
          have hWp := fun (w4 : World) (I4 : Hid (Ih W w4 q p w2.heap.size wr.heap.size (2 * i + 2) ol M' N)) => I4.out.wput ho.out HNl.out ol.bs ho.out.bs
          generalize (alook N ol.nm).getD ⟨#[]⟩ = s at hLk
          generalize (alook N ol.nm).isSome = y at hLk
          clear hk hoth HNl
          rcases hf with rfl | rfl
          · clear HE
            as_aux_lemma =>
              go_wp2_with (first
                | (go_at_call 16; refine hP.mono ?_; rintro e w3 ⟨rfl, a1, a2, I3⟩; clear hP)
                | (go_at_call 15; refine (hLk _ I3).mono ?_; rintro e w4 ⟨A, n, C, rfl, cv1, cv2, lk, d1, d2, I4⟩; obtain ⟨w5, up, I5⟩ := hWp _ I4; clear a1 a2 hLk hWp)
                | (go_at_call 9; refine (num_is _ _).mono ?_; rintro e w0 ⟨rfl, hw0⟩; have hw0 := hw0.symm; subst hw0))
              go_roundw
              case rel => exact ⟨i + 1, _, _, by go_num, HL.out.1, HL.out.2, HR, hid I5.out.back⟩
              case measure => have := HL.out.1; simp [intOf]; omega
          · cases y with
            | false =>
              as_aux_lemma =>
                go_wp2_with (first
                  | (go_at_call 16; refine hP.mono ?_; rintro e w3 ⟨rfl, a1, a2, I3⟩; clear hP)
                  | (go_at_call 15; refine (hLk _ I3).mono ?_; rintro e w4 ⟨A, n, C, rfl, cv1, cv2, lk, d1, d2, I4⟩; obtain ⟨w5, up, I5⟩ := hWp _ I4; clear a1 a2 hLk hWp)
                  | (go_at_call 9; refine (num_is _ _).mono ?_; rintro e w0 ⟨rfl, hw0⟩; have hw0 := hw0.symm; subst hw0))
                go_roundw
                case rel => exact ⟨i + 1, _, _, by go_num, HL.out.1, HL.out.2, HR, hid I5.out.back⟩
                case measure => have := HL.out.1; simp [intOf]; omega
            | true =>
              by_cases hs : s = strB ol.bs
              · subst hs
                as_aux_lemma =>
                  go_wp2_with (first
                    | (go_at_call 16; refine hP.mono ?_; rintro e w3 ⟨rfl, a1, a2, I3⟩; clear hP)
                    | (go_at_call 15; refine (hLk _ I3).mono ?_; rintro e w4 ⟨A, n, C, rfl, cv1, cv2, lk, d1, d2, I4⟩; obtain ⟨w5, up, I5⟩ := hWp _ I4; clear a1 a2 hLk hWp)
                    | (go_at_call 9; refine (num_is _ _).mono ?_; rintro e w0 ⟨rfl, hw0⟩; have hw0 := hw0.symm; subst hw0))
                  go_roundw
                  case rel => exact ⟨i + 1, _, _, by go_num, HL.out.1, HL.out.2, HR, hid I5.out.back⟩
                  case measure => have := HL.out.1; simp [intOf]; omega
              · have e1 : ((strB ol.bs).toList == s.toList) = false := bstr_ne (fun e => hs e.symm)
                clear hs
                as_aux_lemma =>
                  go_wp2_with (first
                    | (go_at_call 16; refine hP.mono ?_; rintro e w3 ⟨rfl, a1, a2, I3⟩; clear hP)
                    | (go_at_call 15; refine (hLk _ I3).mono ?_; rintro e w4 ⟨A, n, C, rfl, cv1, cv2, lk, d1, d2, I4⟩; obtain ⟨w5, up, I5⟩ := hWp _ I4; clear a1 a2 hLk hWp)
                    | (go_at_call 9; refine (num_is _ _).mono ?_; rintro e w0 ⟨rfl, hw0⟩; have hw0 := hw0.symm; subst hw0))
                  go_roundw
                  case rel => exact ⟨i + 1, _, _, by go_num, HL.out.1, HL.out.2, HR, hid I5.out.back⟩
                  case measure => have := HL.out.1; simp [intOf]; omega
        | not hf hL =>
          have hLk := fun (w3 : World) (I3 : Hid (Ih W w3 q p w2.heap.size wr.heap.size (2 * i + 2) ol M' N)) => I3.out.look ho.out ((alook N ol.nm).getD ⟨#[]⟩) ((alook N ol.nm).getD ⟨#[]⟩) (alook N ol.nm).isSome (alook N ol.nm).isSome (by rw [hL, HE.out.some]) (by rw [hL, eqw_text HE.out]) rfl rfl
          cases hy : alook M.L ol.nm with
          | none =>
            have hN0 : alook N ol.nm = none := by rw [HE.out ol.nm, hy]; rfl
            rw [hN0] at hLk
            have HR := hid (HE.out.same hL)
            clear hy hN0 hL HE
            by_cases h8 : f = 8
            · subst h8
              clear hf
              as_aux_lemma =>
                go_wp2_with (first
                  | (go_at_call 16; refine hP.mono ?_; rintro e w3 ⟨rfl, a1, a2, I3⟩; clear hP)
                  | (go_at_call 15; refine (hLk _ I3).mono ?_; rintro e w4 ⟨A, n, C, rfl, cv1, cv2, lk, d1, d2, I4⟩; clear a1 a2 hLk)
                  | (go_at_call 9; refine (num_is _ _).mono ?_; rintro e w0 ⟨rfl, hw0⟩; have hw0 := hw0.symm; subst hw0))
                go_roundw
                case rel => exact ⟨i + 1, _, _, by go_num, HL.out.1, HL.out.2, HR, hid I4.out.back⟩
                case measure => have := HL.out.1; simp [intOf]; omega
            · skip
              as_aux_lemma =>
                go_wp2_with (first
                  | (go_at_call 16; refine hP.mono ?_; rintro e w3 ⟨rfl, a1, a2, I3⟩; clear hP)
                  | (go_at_call 15; refine (hLk _ I3).mono ?_; rintro e w4 ⟨A, n, C, rfl, cv1, cv2, lk, d1, d2, I4⟩; clear a1 a2 hLk)
                  | (go_at_call 9; refine (num_is _ _).mono ?_; rintro e w0 ⟨rfl, hw0⟩; have hw0 := hw0.symm; subst hw0))
                go_roundw
                case rel => exact ⟨i + 1, _, _, by go_num, HL.out.1, HL.out.2, HR, hid I4.out.back⟩
                case measure => have := HL.out.1; simp [intOf]; omega
          | some m =>
            have hN0 : alook N ol.nm = some (strB m) := by rw [HE.out ol.nm, hy]; rfl
            rw [hN0] at hLk
            have HR := hid (HE.out.put (M' := M') (k := ol.nm) (l := m) (fun j _ => by rw [hL]) (by rw [hL, hy]))
            have hmz : m.length ≤ 1048576 := HJ.out.st.2.bz _ (al_mem hy)
            have hWp := fun (w4 : World) (I4 : Hid (Ih W w4 q p w2.heap.size wr.heap.size (2 * i + 2) ol M' N)) => I4.out.wput ho.out HNl.out m hmz
            replace hLk := hLk
            simp only [Option.getD_some, Option.isSome_some] at hLk
            clear hy hN0 hL hmz HE
            generalize strB m = s at hLk hWp HR
            by_cases h8 : f = 8
            · subst h8
              clear hf
              as_aux_lemma =>
                go_wp2_with (first
                  | (go_at_call 16; refine hP.mono ?_; rintro e w3 ⟨rfl, a1, a2, I3⟩; clear hP)
                  | (go_at_call 15; refine (hLk _ I3).mono ?_; rintro e w4 ⟨A, n, C, rfl, cv1, cv2, lk, d1, d2, I4⟩; obtain ⟨w5, up, I5⟩ := hWp _ I4; clear a1 a2 hLk hWp)
                  | (go_at_call 9; refine (num_is _ _).mono ?_; rintro e w0 ⟨rfl, hw0⟩; have hw0 := hw0.symm; subst hw0))
                go_roundw
                case rel => exact ⟨i + 1, _, _, by go_num, HL.out.1, HL.out.2, HR, hid I5.out.back⟩
                case measure => have := HL.out.1; simp [intOf]; omega
            · skip
              as_aux_lemma =>
                go_wp2_with (first
                  | (go_at_call 16; refine hP.mono ?_; rintro e w3 ⟨rfl, a1, a2, I3⟩; clear hP)
                  | (go_at_call 15; refine (hLk _ I3).mono ?_; rintro e w4 ⟨A, n, C, rfl, cv1, cv2, lk, d1, d2, I4⟩; obtain ⟨w5, up, I5⟩ := hWp _ I4; clear a1 a2 hLk hWp)
                  | (go_at_call 9; refine (num_is _ _).mono ?_; rintro e w0 ⟨rfl, hw0⟩; have hw0 := hw0.symm; subst hw0))
                go_roundw
                case rel => exact ⟨i + 1, _, _, by go_num, HL.out.1, HL.out.2, HR, hid I5.out.back⟩
                case measure => have := HL.out.1; simp [intOf]; omega
      by_cases k1 : ol.kd = 1
      · rw [k1] at q0
        have hP := HI.out.get ok (by omega) ((alook N ol.nm).getD ⟨#[]⟩) (alook N ol.nm).isSome rfl rfl
        have hw := getW M ol.nm
        have HR := hid (HE.out.same (putW_L M ol.nm))
        unfold OpD.cells at hP
        rw [k1] at hP
        generalize (getM M ol.nm).2.1 = f at hP hw
        generalize (getM M ol.nm).1 = g at hP hw
        generalize (getM M ol.nm).2.2 = M' at hP HR
        rcases hw with ⟨m, rfl, rfl, hm⟩ | ⟨rfl, hm⟩ | ⟨n0, n3⟩
        · have hN0 : alook N ol.nm = some (strB g) := by rw [HE.out ol.nm, hm]; rfl
          rw [hN0] at hP
          simp only [Option.getD_some, Option.isSome_some] at hP
          generalize strB g = s at hP
          clear hm hN0 HI k0 k1 HE HNl
          as_aux_lemma =>
            go_wp2_with (first
              | (go_at_call 13; refine hP.mono ?_; rintro e w3 ⟨A, n, C, rfl, cv1, lk, a1, I3⟩; clear hP)
              | (go_at_call 9; refine (num_is _ _).mono ?_; rintro e w0 ⟨rfl, hw0⟩; have hw0 := hw0.symm; subst hw0))
            go_roundw
            case rel => exact ⟨i + 1, _, _, by go_num, HL.out.1, HL.out.2, HR, hid (I3.out.le (by omega) (by omega)).back⟩
            case measure => have := HL.out.1; simp [intOf]; omega
        · have hN0 : alook N ol.nm = none := by rw [HE.out ol.nm, hm]; rfl
          rw [hN0] at hP
          simp only [Option.getD_none, Option.isSome_none] at hP
          generalize strB g = s at hP
          clear hm hN0 HI k0 k1 HE HNl
          as_aux_lemma =>
            go_wp2_with (first
              | (go_at_call 13; refine hP.mono ?_; rintro e w3 ⟨A, n, C, rfl, cv1, lk, a1, I3⟩; clear hP)
              | (go_at_call 9; refine (num_is _ _).mono ?_; rintro e w0 ⟨rfl, hw0⟩; have hw0 := hw0.symm; subst hw0))
            go_roundw
            case rel => exact ⟨i + 1, _, _, by go_num, HL.out.1, HL.out.2, HR, hid (I3.out.le (by omega) (by omega)).back⟩
            case measure => have := HL.out.1; simp [intOf]; omega
        · generalize (alook N ol.nm).getD ⟨#[]⟩ = s at hP
          generalize (alook N ol.nm).isSome = y at hP
          generalize strB g = u at hP
          clear HI k0 k1 HE HNl
          as_aux_lemma =>
            go_wp2_with (first
              | (go_at_call 13; refine hP.mono ?_; rintro e w3 ⟨A, n, C, rfl, cv1, lk, a1, I3⟩; clear hP)
              | (go_at_call 9; refine (num_is _ _).mono ?_; rintro e w0 ⟨rfl, hw0⟩; have hw0 := hw0.symm; subst hw0))
            go_roundw
            case rel => exact ⟨i + 1, _, _, by go_num, HL.out.1, HL.out.2, HR, hid (I3.out.le (by omega) (by omega)).back⟩
            case measure => have := HL.out.1; simp [intOf]; omega
      by_cases k2 : ol.kd = 2
      · rw [k2] at q0
        have hP := HI.out.del ok ct
        have hw := delW M ol.nm
        unfold OpD.cells at hP
        rw [k2] at hP
        generalize (delM M ol.nm).1 = f at hP hw
        generalize (delM M ol.nm).2 = M' at hP hw
        clear HI ok ct k0 k1 k2 HNl
        cases hw with
        | did hk hoth =>
          have HR := hid (HE.out.del hoth hk)
          have hLk := fun (w3 : World) (I3 : Hid (Ih W w3 q p w2.heap.size wr.heap.size (2 * i + 2) ol M' N)) => I3.out.look ho.out ⟨#[]⟩ ((alook N ol.nm).getD ⟨#[]⟩) false (alook N ol.nm).isSome (by rw [hk]; rfl) (by rw [hk]; rfl) rfl rfl
          generalize (alook N ol.nm).getD ⟨#[]⟩ = s at hLk
          generalize (alook N ol.nm).isSome = y at hLk
          clear hk hoth HE
          by_cases hf : f = 0
          · subst hf
            as_aux_lemma =>
              go_wp2_with (first
                | (go_at_call 17; refine hP.mono ?_; rintro e w3 ⟨rfl, a1, I3⟩; clear hP)
                | (go_at_call 15; refine (hLk _ I3).mono ?_; rintro e w4 ⟨A, n, C, rfl, cv1, cv2, lk, d1, d2, I4⟩; obtain ⟨w5, up, I5⟩ := I4.out.wdel ho.out 0; clear a1 hLk)
                | (go_at_call 9; refine (num_is _ _).mono ?_; rintro e w0 ⟨rfl, hw0⟩; have hw0 := hw0.symm; subst hw0))
              go_roundw
              case rel => exact ⟨i + 1, _, _, by go_num, HL.out.1, HL.out.2, HR, hid I5.out.back⟩
              case measure => have := HL.out.1; simp [intOf]; omega
          · skip
            as_aux_lemma =>
              go_wp2_with (first
                | (go_at_call 17; refine hP.mono ?_; rintro e w3 ⟨rfl, a1, I3⟩; clear hP)
                | (go_at_call 15; refine (hLk _ I3).mono ?_; rintro e w4 ⟨A, n, C, rfl, cv1, cv2, lk, d1, d2, I4⟩; obtain ⟨w5, up, I5⟩ := I4.out.wdel ho.out 0; clear a1 hLk)
                | (go_at_call 9; refine (num_is _ _).mono ?_; rintro e w0 ⟨rfl, hw0⟩; have hw0 := hw0.symm; subst hw0))
              go_roundw
              case rel => exact ⟨i + 1, _, _, by go_num, HL.out.1, HL.out.2, HR, hid I5.out.back⟩
              case measure => have := HL.out.1; simp [intOf]; omega
        | not hf hL =>
          cases hy : alook M.L ol.nm with
          | none =>
            have HR := hid (HE.out.del (M' := M') (k := ol.nm) (fun j _ => by rw [hL]) (by rw [hL, hy]))
            have hLk := fun (w3 : World) (I3 : Hid (Ih W w3 q p w2.heap.size wr.heap.size (2 * i + 2) ol M' N)) => I3.out.look ho.out ⟨#[]⟩ ((alook N ol.nm).getD ⟨#[]⟩) false (alook N ol.nm).isSome (by rw [hL, hy]; rfl) (by rw [hL, hy]; rfl) rfl rfl
            generalize (alook N ol.nm).getD ⟨#[]⟩ = s at hLk
            generalize (alook N ol.nm).isSome = y at hLk
            clear hy hL HE
            as_aux_lemma =>
              go_wp2_with (first
                | (go_at_call 17; refine hP.mono ?_; rintro e w3 ⟨rfl, a1, I3⟩; clear hP)
                | (go_at_call 15; refine (hLk _ I3).mono ?_; rintro e w4 ⟨A, n, C, rfl, cv1, cv2, lk, d1, d2, I4⟩; obtain ⟨w5, up, I5⟩ := I4.out.wdel ho.out 0; clear a1 hLk)
                | (go_at_call 9; refine (num_is _ _).mono ?_; rintro e w0 ⟨rfl, hw0⟩; have hw0 := hw0.symm; subst hw0))
              go_roundw
              case rel => exact ⟨i + 1, _, _, by go_num, HL.out.1, HL.out.2, HR, hid I5.out.back⟩
              case measure => have := HL.out.1; simp [intOf]; omega
          | some m =>
            have HR := hid (HE.out.same hL)
            have hLk := fun (w3 : World) (I3 : Hid (Ih W w3 q p w2.heap.size wr.heap.size (2 * i + 2) ol M' N)) => I3.out.look ho.out (strB m) ((alook N ol.nm).getD ⟨#[]⟩) true (alook N ol.nm).isSome (by rw [hL, hy]; rfl) (by rw [hL, hy]; rfl) rfl rfl
            generalize (alook N ol.nm).getD ⟨#[]⟩ = s at hLk
            generalize (alook N ol.nm).isSome = y at hLk
            generalize strB m = u at hLk
            clear hy hL HE
            as_aux_lemma =>
              go_wp2_with (first
                | (go_at_call 17; refine hP.mono ?_; rintro e w3 ⟨rfl, a1, I3⟩; clear hP)
                | (go_at_call 15; refine (hLk _ I3).mono ?_; rintro e w4 ⟨A, n, C, rfl, cv1, cv2, lk, d1, d2, I4⟩; obtain ⟨w5, up, I5⟩ := I4.out.wdel ho.out 0; clear a1 hLk)
                | (go_at_call 9; refine (num_is _ _).mono ?_; rintro e w0 ⟨rfl, hw0⟩; have hw0 := hw0.symm; subst hw0))
              go_roundw
              case rel => exact ⟨i + 1, _, _, by go_num, HL.out.1, HL.out.2, HR, hid I4.out.back⟩
              case measure => have := HL.out.1; simp [intOf]; omega
      by_cases k3 : ol.kd = 3
      · rw [k3] at q0
        have hP := HI.out.list ok (by omega)
        have HR := hid (HE.out.same (listM_L M ol.nm))
        unfold OpD.cells at hP
        rw [k3] at hP
        clear HI HE HNl k0 k1 k2 k3
        as_aux_lemma =>
          go_wp2_with (first
            | (go_at_call 14; refine hP.mono ?_; rintro e w3 ⟨A, n, C, y, rfl, I3⟩; clear hP)
            | (go_at_call 9; refine (num_is _ _).mono ?_; rintro e w0 ⟨rfl, hw0⟩; have hw0 := hw0.symm; subst hw0))
          go_roundw
          case rel => exact ⟨i + 1, _, _, by go_num, HL.out.1, HL.out.2, HR, hid (I3.out.le (by omega) (by omega)).back⟩
          case measure => have := HL.out.1; simp [intOf]; omega
      by_cases k4 : ol.kd = 4
      · rw [k4] at q0
        have hP := HI.out.tick ol.n
        have HR := hid (HE.out.same (tickM_L M ol.n))
        unfold OpD.cells at hP
        rw [k4] at hP
        clear HI HE HNl k0 k1 k2 k3 k4
        as_aux_lemma =>
          go_wp2_with (first
            | (go_at_call 18; refine hP.mono ?_; rintro e w3 ⟨y, rfl, I3⟩; clear hP)
            | (go_at_call 9; refine (num_is _ _).mono ?_; rintro e w0 ⟨rfl, hw0⟩; have hw0 := hw0.symm; subst hw0))
          go_roundw
          case rel => exact ⟨i + 1, _, _, by go_num, HL.out.1, HL.out.2, HR, hid (I3.out.le (by omega) (by omega)).back⟩
          case measure => have := HL.out.1; simp [intOf]; omega
      by_cases k5 : ol.kd = 5
      · rw [k5] at q0
        have hP := HI.out.lag ol.n
        have HR := hid (HE.out.same (lagM_L M ol.n))
        unfold OpD.cells at hP
        rw [k5] at hP
        clear HI HE HNl k0 k1 k2 k3 k4 k5
        as_aux_lemma =>
          go_wp2_with (first
            | (go_at_call 19; refine hP.mono ?_; rintro e w3 ⟨y, rfl, I3⟩; clear hP)
            | (go_at_call 9; refine (num_is _ _).mono ?_; rintro e w0 ⟨rfl, hw0⟩; have hw0 := hw0.symm; subst hw0))
          go_roundw
          case rel => exact ⟨i + 1, _, _, by go_num, HL.out.1, HL.out.2, HR, hid (I3.out.le (by omega) (by omega)).back⟩
          case measure => have := HL.out.1; simp [intOf]; omega
      by_cases k6 : ol.kd = 6
      · rw [k6] at q0
        have hP := HI.out.fail ol.n ol.y ok.n.2
        have HR := hid (HE.out.same (show (failS M ol.n ol.y).L = M.L from rfl))
        unfold OpD.cells at hP
        rw [k6] at hP
        clear HI HE HNl k0 k1 k2 k3 k4 k5 k6
        as_aux_lemma =>
          go_wp2_with (first
            | (go_at_call 12; refine hP.mono ?_; rintro e w3 ⟨rfl, I3⟩; clear hP)
            | (go_at_call 9; refine (num_is _ _).mono ?_; rintro e w0 ⟨rfl, hw0⟩; have hw0 := hw0.symm; subst hw0))
          go_roundw
          case rel => exact ⟨i + 1, _, _, by go_num, HL.out.1, HL.out.2, HR, hid (I3.out.le (by omega) (by omega)).back⟩
          case measure => have := HL.out.1; simp [intOf]; omega
      have HR := HE
      unfold OpD.cells at HI
      clear HE HNl
      as_aux_lemma =>
        go_wp2_with (first
          | (go_at_call 9; refine (num_is _ _).mono ?_; rintro e w0 ⟨rfl, hw0⟩; have hw0 := hw0.symm; subst hw0))
        go_roundw
        case rel => exact ⟨i + 1, _, _, by go_num, HL.out.1, HL.out.2, HR, hid (HI.out.le (by omega) (by omega)).back⟩
        case measure => have := HL.out.1; simp [intOf]; omega
    · have hK : Calls Try.prog 20 #[.pointer (some ⟨q, 0, none⟩)] wr fun e w' => ∃ A C, e = .returned (.slice A N.length C) ∧ Hid (Below W.heap.size W w') ∧ (Builtin.len_ #[53] 3 #[.map (some w2.heap.size)]).run Try.prog w' = .ok (.int .i64 (N.length : Nat)) w' := by
        refine (Keys_is HJ.out.st).mono ?_
        rintro e w8 ⟨v8, rfl, ow, b8⟩
        obtain ⟨A, C, hv, _⟩ := ow.rd.form
        subst hv
        have hJ := HJ.out.below b8
        refine ⟨A, C, ?_, hid hJ.bel, hJ.wm.len _⟩
        rw [List.length_map, rises_length, HE.out.len HJ.out.st.2.nn HJ.out.nn]
      clear HE HJ
      by_cases h1 : i < l.length
      · have hil : (i : Int) < (l.length : Int) := by omega
        have hil2 : ¬ (i : Int) < 200 := by omega
        clear hLt ROW
        go_wp2_with (first
          | (go_at_call 20; refine hK.mono ?_; rintro e w8 ⟨A, C, rfl, b8, ln⟩; clear hK)
          | (go_at_call 9; refine (num_is _ _).mono ?_; rintro e w0 ⟨rfl, hw0⟩; have hw0 := hw0.symm; subst hw0))
        go_ret
        exact ⟨rfl, b8.out⟩
      · have hil : ¬ (i : Int) < (l.length : Int) := by omega
        clear hLt ROW
        go_wp2_with (first
          | (go_at_call 20; refine hK.mono ?_; rintro e w8 ⟨A, C, rfl, b8, ln⟩; clear hK)
          | (go_at_call 9; refine (num_is _ _).mono ?_; rintro e w0 ⟨rfl, hw0⟩; have hw0 := hw0.symm; subst hw0))
        go_ret
        exact ⟨rfl, b8.out⟩
end Go.Proofs.Ytpdjdmgfhfaecaa
