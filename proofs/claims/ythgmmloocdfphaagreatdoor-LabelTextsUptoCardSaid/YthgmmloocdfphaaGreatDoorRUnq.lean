/-
  What the reference's Unquote answers: what stands quoted, byte by byte. Conditions: those that each theorem names.
-/
import Derived.Test.YthgmmloocdfphaaGreatDoorREsc
namespace Go.Proofs.YthgmmloocdfphaaGreatDoor
open Go.RowKit Go.Icz

theorem runq_nil (f : Nat) (acc : B8) (n : Nat) : runq f [] acc n = none := by cases f <;> rfl
theorem b34 {b : UInt8} : b = 34 ↔ b.toNat = 34 := toNat_lit (n := 34) (by omega)
theorem b92 {b : UInt8} : b = 92 ↔ b.toNat = 92 := toNat_lit (n := 92) (by omega)
theorem b127 {b : UInt8} : b = 127 ↔ b.toNat = 127 := toNat_lit (n := 127) (by omega)
theorem ns_one (b : UInt8) : ns [b] = [b.toNat] := rfl
/-- Where the reading stands. -/
def UAt (l : B8) (i : Nat) (acc : B8) : Prop := i ≤ l.length ∧ acc.length ≤ i ∧ ∃ f, l.length - i < f ∧ runquoteS l = runq f (l.drop i) acc i
theorem UAt.stop {l acc : B8} {i : Nat} (h : UAt l i acc) (hi : l.length ≤ i) : runquoteS l = none := by
  obtain ⟨_, _, f, _, e⟩ := h
  rw [e, List.drop_of_length_le hi, runq_nil]
theorem UAt.open' {l acc : B8} {i : Nat} (h : UAt l i acc) (hi : i < l.length) : ∃ f, l.length - i ≤ f ∧ runquoteS l = (if l[i] = 34 then (if Lib.validD acc then some (acc, i + 1) else none) else if l[i] = 92 then
      (match escS (l.drop (i + 1)) with | none => none | some (c, k) => runq f ((l.drop (i + 1)).drop k) (acc ++ [UInt8.ofNat c]) (i + 1 + k))
    else if (l[i]).toNat < 32 ∨ l[i] = 127 then none else runq f (l.drop (i + 1)) (acc ++ [l[i]]) (i + 1)) := by
  obtain ⟨_, _, f, hf, e⟩ := h
  obtain ⟨f, rfl⟩ : ∃ g, f = g + 1 := ⟨f - 1, by omega⟩
  refine ⟨f, by omega, ?_⟩
  rw [e, List.drop_eq_getElem_cons hi, runq_cons]
  rfl
theorem UAt.quote {l acc : B8} {i : Nat} (h : UAt l i acc) (hi : i < l.length) (hq : (l[i]).toNat = 34) : runquoteS l = if Lib.validD acc then some (acc, i + 1) else none := by
  obtain ⟨f, _, e⟩ := h.open' hi
  rw [e, if_pos (b34.2 hq)]
theorem UAt.bad {l acc : B8} {i : Nat} (h : UAt l i acc) (hi : i < l.length) (h34 : (l[i]).toNat ≠ 34) (h92 : (l[i]).toNat ≠ 92) (hb : (l[i]).toNat < 32 ∨ (l[i]).toNat = 127) : runquoteS l = none := by
  obtain ⟨f, _, e⟩ := h.open' hi
  rw [e, if_neg (fun x => h34 (b34.1 x)), if_neg (fun x => h92 (b92.1 x)), if_pos (hb.imp id (fun x => b127.2 x))]
theorem UAt.on {l acc : B8} {i : Nat} (h : UAt l i acc) (hi : i < l.length) (h34 : (l[i]).toNat ≠ 34) (h92 : (l[i]).toNat ≠ 92) (hb : ¬ ((l[i]).toNat < 32 ∨ (l[i]).toNat = 127)) : UAt l (i + 1) (acc ++ [l[i]]) := by
  obtain ⟨f, hf, e⟩ := h.open' hi
  obtain ⟨_, ha, _⟩ := h
  refine ⟨by omega, by simp; omega, f, by omega, ?_⟩
  rw [e, if_neg (fun x => h34 (b34.1 x)), if_neg (fun x => h92 (b92.1 x)), if_neg (fun x => hb (x.imp id (fun y => b127.1 y)))]
theorem UAt.noEsc {l acc : B8} {i : Nat} (h : UAt l i acc) (hi : i < l.length) (h92 : (l[i]).toNat = 92) (he : escS (l.drop (i + 1)) = none) : runquoteS l = none := by
  obtain ⟨f, _, e⟩ := h.open' hi
  have hb : l[i] = 92 := b92.2 h92
  rw [e, hb, if_neg (by decide), if_pos rfl, he]
theorem UAt.esc {l acc : B8} {i c k : Nat} (h : UAt l i acc) (hi : i < l.length) (h92 : (l[i]).toNat = 92) (he : escS (l.drop (i + 1)) = some (c, k)) : UAt l (i + 1 + k) (acc ++ [UInt8.ofNat c]) := by
  obtain ⟨f, hf, e⟩ := h.open' hi
  obtain ⟨_, ha, _⟩ := h
  have hb : l[i] = 92 := b92.2 h92
  have hk := escS_lt he
  rw [List.length_drop] at hk
  refine ⟨by omega, by simp; omega, f, by omega, ?_⟩
  rw [e, hb, if_neg (by decide), if_pos rfl, he]
  simp only [List.drop_drop]
set_option maxHeartbeats 8000000 in
set_option maxRecDepth 100000 in
theorem RUnquote_is (s : ByteArray) (w : World) (hs : s.size ≤ 140737488355200) : Calls Tryz.prog 83 #[.string s] w (Unq (runquoteS s.data.toList) w) := by
  have hln : s.data.toList.length = s.size := size_len s
  by_cases h0 : s.size = 0
  · have ht : s = ⟨#[]⟩ := by
      obtain ⟨⟨l⟩⟩ := s
      cases l with
      | nil => rfl
      | cons _ _ => simp [ByteArray.size] at h0
    subst ht
    go_enter Tryz.func83, Tryz.ntmps83
    go_wp2
    go_ret3
    exact ⟨rfl, Below.refl _ _⟩
  have hpos : 0 < s.size := by omega
  have hne : ((s.size : Int) == 0) = false := beq_eq_false_iff_ne.2 (by omega)
  have hget : ∀ j (hj : j < s.size), s.data.toList[j]'(by rw [hln]; exact hj) = s[j] := fun j hj => rfl
  by_cases h34 : (s[0]).toNat = 34
  · have hU : UAt s.data.toList 1 [] := by
      have hb : s[0] = 34 := b34.2 h34
      have e : s.data.toList = 34 :: s.data.toList.drop 1 := by
        have := List.drop_eq_getElem_cons (i := 0) (l := s.data.toList) (by rw [hln]; exact hpos)
        rw [List.drop_zero, hget 0 hpos, hb] at this
        exact this
      refine ⟨by omega, by simp, s.data.toList.length, by omega, ?_⟩
      have e2 : ∀ u : B8, runquoteS (34 :: u) = runq (34 :: u).length u [] 1 := fun _ => rfl
      have e3 := congrArg runquoteS e
      rw [e2, ← e] at e3
      exact e3
    have HU := hid hU
    have f1 : (((s[0]).toNat : Int) == 34) = true := by simp; omega
    have f2 : (((s[0]).toNat : Int) != 34) = false := by simp; omega
    clear hU h34
    go_enter Tryz.func83, Tryz.ntmps83
    go_wp2
    clear f1 f2
    go_loopw [5, 6] (fun v iv wr => ∃ (i : Nat) (acc : B8), iv = .int .i64 i ∧ Hid (UAt s.data.toList i acc) ∧ Own wr w.heap.size v (ns acc) ∧ Below w.heap.size w wr) (fun _ iv _ => s.size - (intOf iv).toNat)
    case atStart => exact ⟨1, [], rfl, HU, Own.nil _ _, Below.refl _ _⟩
    case round =>
      obtain ⟨i, acc, rfl, HA, hown, hb⟩ := hrel
      have hf := hb.size
      have hi := HA.out.1
      have hal := HA.out.2.1
      rw [hln] at hi
      have hnl := ns_len acc
      by_cases hlt : i < s.size
      · have hlt' : i < s.data.toList.length := by rw [hln]; exact hlt
        have hq := UAt.quote HA.out hlt'
        have hbad := UAt.bad HA.out hlt'
        have hon := UAt.on HA.out hlt'
        have hno := UAt.noEsc HA.out hlt'
        have hes := fun c k => UAt.esc (c := c) (k := k) HA.out hlt'
        rw [hget i hlt] at hq hbad hon hno hes
        by_cases c34 : (s[i]).toNat = 34
        · have HN := hid (hq c34)
          have g1 : (((s[i]).toNat : Int) == 34) = true := by simp; omega
          have g2 : (((s[i]).toNat : Int) != 34) = false := by simp; omega
          have g6 : ¬ (s.size : Int) ≤ i := by omega
          have hcv := conv_rd std hown.rd
          rw [str_ns] at hcv
          have hG := fun w => Good_is acc w (by omega)
          clear hq hbad hon hno hes c34
          cases hv : Lib.validD acc with
          | true =>
            rw [hv] at hG
            have HN2 : Hid (runquoteS s.data.toList = some (acc, i + 1)) := hid (by rw [HN.out, if_pos hv])
            clear hv HN
            go_wp2_with (go_at_call 62; refine (hG _).mono ?_; rintro e w3 ⟨rfl, rfl⟩)
            go_ret3
            exact ⟨by rw [HN2.out]; rfl, hb⟩
          | false =>
            rw [hv] at hG
            have HN2 : Hid (runquoteS s.data.toList = none) := hid (by rw [HN.out, if_neg (by rw [hv]; simp)])
            clear hv HN
            go_wp2_with (go_at_call 62; refine (hG _).mono ?_; rintro e w3 ⟨rfl, rfl⟩)
            go_ret3
            exact ⟨by rw [HN2.out]; rfl, hb⟩
        have g1 : (((s[i]).toNat : Int) == 34) = false := by simp; omega
        have g2 : (((s[i]).toNat : Int) != 34) = true := by simp; omega
        by_cases c92 : (s[i]).toNat = 92
        · have g3 : (((s[i]).toNat : Int) == 92) = true := by simp; omega
          have hed : (s.extract (i + 1) s.size).data.toList = s.data.toList.drop (i + 1) := extract_drop s (i + 1)
          have hez : (s.extract (i + 1) s.size).size ≤ s.size := by rw [← size_len, hed, List.length_drop]; omega
          have hE := fun w => REsc_is (s.extract (i + 1) s.size) w (by omega)
          rw [hed] at hE
          cases he : escS (s.data.toList.drop (i + 1)) with
          | none =>
            have HN := hid (hno c92 he)
            rw [he] at hE
            unfold EscOut at hE
            clear hq hbad hon hno hes he hed
            go_wp2_with (go_at_call 116; refine (hE _).mono ?_; rintro e w3 ⟨rfl, b3⟩)
            go_ret3
            exact ⟨by rw [HN.out]; rfl, hb.trans (b3.mono hf)⟩
          | some y =>
            obtain ⟨c, k⟩ := y
            have HN := hid (hes c k c92 he)
            have hck := escS_lt he
            rw [he] at hE
            unfold EscOut at hE
            rw [List.length_drop] at hck
            have hk0 : ((k : Int) == 0) = false := beq_eq_false_iff_ne.2 (by omega)
            clear hq hbad hon hno hes he hed
            go_wp2_with (first
              | (go_at_call 116; refine (hE _).mono ?_; rintro e w3 ⟨rfl, b3⟩)
              | (at_builtin; refine wp_app1 std rfl (.tmp 41) (.tmp 43) rfl w.heap.size _ (ns acc) c rfl (hown.below b3) rfl (by omega) (by have := b3.size; omega) ?_; intro v' w4 hown' hb4 _))
            go_roundw
            case rel => exact ⟨i + 1 + k, acc ++ [UInt8.ofNat c], by go_num, HN, by rw [ns_app, ns_one, show (UInt8.ofNat c).toNat = c by simp; omega]; exact hown', (hb.trans (b3.mono hf)).trans hb4⟩
            case measure => simp [intOf]; omega
        have g3 : (((s[i]).toNat : Int) == 92) = false := by simp; omega
        by_cases cb : (s[i]).toNat < 32 ∨ (s[i]).toNat = 127
        · have HN := hid (hbad c34 c92 cb)
          clear hq hbad hon hno hes
          rcases cb with cb | cb
          · have g4 : ((s[i]).toNat : Int) < 32 := by omega
            clear cb c34 c92
            go_wp2
            go_ret3
            exact ⟨by rw [HN.out]; rfl, hb⟩
          · have g4 : ¬ ((s[i]).toNat : Int) < 32 := by omega
            have g5 : (((s[i]).toNat : Int) == 127) = true := by simp; omega
            clear cb c34 c92
            go_wp2
            go_ret3
            exact ⟨by rw [HN.out]; rfl, hb⟩
        · have HN := hid (hon c34 c92 cb)
          have g4 : ¬ ((s[i]).toNat : Int) < 32 := by omega
          have g5 : (((s[i]).toNat : Int) == 127) = false := by simp; omega
          clear hq hbad hon hno hes
          go_wp2_with (at_builtin; refine wp_app1 std rfl (.tmp 59) (.tmp 63) rfl w.heap.size _ (ns acc) (s[i]).toNat rfl hown rfl (by omega) hf ?_; intro v' w4 hown' hb4 _)
          go_roundw
          case rel => exact ⟨i + 1, acc ++ [s[i]], by go_num, HN, by rw [ns_app, ns_one]; exact hown', hb.trans hb4⟩
          case measure => simp [intOf]; omega
      · have HN := hid (UAt.stop HA.out (by omega))
        obtain rfl : i = s.size := by omega
        go_wp2
        go_ret3
        exact ⟨by rw [HN.out]; rfl, hb⟩
  · have HN : Hid (runquoteS s.data.toList = none) := hid (by
      unfold runquoteS
      split
      · rename_i t ht
        have h0 := hget 0 hpos
        simp only [ht, List.getElem_cons_zero] at h0
        exact absurd (by rw [← h0]; rfl) h34
      · rfl)
    have f1 : (((s[0]).toNat : Int) == 34) = false := by simp; omega
    have f2 : (((s[0]).toNat : Int) != 34) = true := by simp; omega
    go_enter Tryz.func83, Tryz.ntmps83
    go_wp2
    go_ret3
    exact ⟨by rw [HN.out]; rfl, Below.refl _ _⟩
end Go.Proofs.YthgmmloocdfphaaGreatDoor
