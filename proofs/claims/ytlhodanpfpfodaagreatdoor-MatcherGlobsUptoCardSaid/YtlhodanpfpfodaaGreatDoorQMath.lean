/-
  Quoted texts as the document writes and reads them, byte by byte, against the program's, rune by rune. No condition.
-/
import Derived.Test.YtlhodanpfpfodaaGreatDoorQBack
namespace Go.Proofs.YtlhodanpfpfodaaGreatDoor
open Go.RowKit Go.Icz
/-- A byte as the document writes it within a quoted text. -/
def qb (c : UInt8) : B8 := if c = 34 ∨ c = 92 then [92, c] else if c = 10 then [92, 110] else if c.toNat < 32 ∨ c = 127 then [92, 117, 123] ++ (hexN c.toNat).map UInt8.ofNat ++ [125] else [c]
theorem toNat_lit {c : UInt8} {n : Nat} (h : n < 256) : c = UInt8.ofNat n ↔ c.toNat = n := by
  constructor
  · rintro rfl; simp; omega
  · intro e; rw [← e]; simp
theorem qb_qr (c : UInt8) (h : c.toNat < 128) : qb c = qr c.toNat := by
  have e : ∀ n, n < 256 → (c = UInt8.ofNat n ↔ c.toNat = n) := fun n hn => toNat_lit hn
  have e1 := e 34 (by omega); have e2 := e 92 (by omega); have e3 := e 10 (by omega); have e4 := e 127 (by omega)
  have k1 : (UInt8.ofNat 34) = 34 := rfl
  have k2 : (UInt8.ofNat 92) = 92 := rfl
  have k3 : (UInt8.ofNat 10) = 10 := rfl
  have k4 : (UInt8.ofNat 127) = 127 := rfl
  rw [k1] at e1; rw [k2] at e2; rw [k3] at e3; rw [k4] at e4
  unfold qb qr
  simp only [e1, e2, e3, e4]
  split
  · simp
  · split
    · rfl
    · split
      · rfl
      · rw [encodeRune_lo h]; simp
theorem qb_hi (c : UInt8) (h : 128 ≤ c.toNat) : qb c = [c] := by
  have e : ∀ n, n < 256 → (c = UInt8.ofNat n ↔ c.toNat = n) := fun n hn => toNat_lit hn
  have e1 := e 34 (by omega); have e2 := e 92 (by omega); have e3 := e 10 (by omega); have e4 := e 127 (by omega)
  have k1 : (UInt8.ofNat 34) = 34 := rfl
  have k2 : (UInt8.ofNat 92) = 92 := rfl
  have k3 : (UInt8.ofNat 10) = 10 := rfl
  have k4 : (UInt8.ofNat 127) = 127 := rfl
  rw [k1] at e1; rw [k2] at e2; rw [k3] at e3; rw [k4] at e4
  unfold qb
  rw [if_neg (by rw [e1, e2]; omega), if_neg (by rw [e3]; omega), if_neg (by rw [e4]; omega)]
theorem encodeRune_all {r : Nat} (h : 128 ≤ r) (h2 : r ≤ 1114111) : ∀ b ∈ Lib.encodeRune (r : Int), 128 ≤ b.toNat := by
  unfold Lib.encodeRune
  by_cases h3 : r ≤ 2047
  · rw [Lib.encodeRuneZ_two (by omega) (by omega)]
    simp only [List.map_cons, List.map_nil, List.mem_cons, List.not_mem_nil, or_false]
    rintro b (rfl | rfl)
    · rw [ofNat_toNat_int (x := 192 + r / 64) (by omega)]; simp; omega
    · rw [ofNat_toNat_int (x := 128 + r % 64) (by omega)]; simp; omega
  · by_cases h4 : (r < 55296) ∨ (57343 < r ∧ r ≤ 65535)
    · rw [Lib.encodeRuneZ_three (by omega)]
      simp only [List.map_cons, List.map_nil, List.mem_cons, List.not_mem_nil, or_false]
      rintro b (rfl | rfl | rfl)
      · rw [ofNat_toNat_int (x := 224 + r / 4096) (by omega)]; simp; omega
      · rw [ofNat_toNat_int (x := 128 + r / 64 % 64) (by omega)]; simp; omega
      · rw [ofNat_toNat_int (x := 128 + r % 64) (by omega)]; simp; omega
    · by_cases h5 : 65536 ≤ r
      · rw [Lib.encodeRuneZ_four (by omega) (by omega)]
        simp only [List.map_cons, List.map_nil, List.mem_cons, List.not_mem_nil, or_false]
        rintro b (rfl | rfl | rfl | rfl)
        · rw [ofNat_toNat_int (x := 240 + r / 262144) (by omega)]; simp; omega
        · rw [ofNat_toNat_int (x := 128 + r / 4096 % 64) (by omega)]; simp; omega
        · rw [ofNat_toNat_int (x := 128 + r / 64 % 64) (by omega)]; simp; omega
        · rw [ofNat_toNat_int (x := 128 + r % 64) (by omega)]; simp; omega
      · rw [Lib.encodeRuneZ_bad (by omega)]
        decide
/-- The rune at the beginning of a text: of ASCII, and the byte itself; or of bytes beyond ASCII. -/
theorem rune_head (l : B8) (hne : l ≠ []) (hg : ¬ ((Lib.decodeL l).1 = 65533 ∧ (Lib.decodeL l).2 = 1)) :
    ((Lib.decodeL l).1 < 128 ∧ l.take (Lib.decodeL l).2 = [UInt8.ofNat (Lib.decodeL l).1]) ∨ (128 ≤ (Lib.decodeL l).1 ∧ ∀ b ∈ l.take (Lib.decodeL l).2, 128 ≤ b.toNat) := by
  have hE := Lib.encode_decode l hne hg
  have hr := Lib.decodeL_rune l
  by_cases h : (Lib.decodeL l).1 < 128
  · rw [encodeRune_lo h] at hE
    exact .inl ⟨h, hE.symm⟩
  · rw [← hE]
    exact .inr ⟨by omega, encodeRune_all (by omega) hr⟩
theorem flatMap_hi : ∀ (p : B8), (∀ b ∈ p, 128 ≤ b.toNat) → p.flatMap qb = p
  | [], _ => rfl
  | b :: p, h => by rw [List.flatMap_cons, qb_hi b (h b (by simp)), flatMap_hi p fun c hc => h c (by simp [hc])]; rfl
theorem qbody_bytes : ∀ (l : B8), Lib.validD l = true → qbody l = l.flatMap qb
  | l, hv => by
    by_cases hne : l = []
    · subst hne; rfl
    · obtain ⟨hg, hv2⟩ := validD_on hne hv
      have hk := Lib.decodeL_le l hne
      have hw := Lib.decodeL_width l
      have hr := Lib.decodeL_rune l
      have hpl : 0 < l.length := List.length_pos_iff.2 hne
      have ih := qbody_bytes (l.drop (Lib.decodeL l).2) hv2
      have hE := Lib.encode_decode l hne hg
      have e : l.flatMap qb = (l.take (Lib.decodeL l).2).flatMap qb ++ (l.drop (Lib.decodeL l).2).flatMap qb := by rw [← List.flatMap_append, List.take_append_drop]
      rw [qbody_step l hne, ih, e]
      congr 1
      rcases rune_head l hne hg with ⟨h1, h2⟩ | ⟨h1, h2⟩
      · rw [h2]
        have hc : (UInt8.ofNat (Lib.decodeL l).1).toNat = (Lib.decodeL l).1 := by simp; omega
        simp only [List.flatMap_cons, List.flatMap_nil, List.append_nil]
        rw [qb_qr _ (by omega), hc]
      · rw [flatMap_hi _ h2, ← hE]
        unfold qr
        rw [if_neg (by omega), if_neg (by omega), if_neg (by omega)]
termination_by l => l.length
decreasing_by rw [List.length_drop]; omega
theorem validD_app : ∀ (a b : B8), Lib.validD a = true → Lib.validD (a ++ b) = Lib.validD b
  | a, b, hv => by
    by_cases hne : a = []
    · subst hne; rfl
    · obtain ⟨hg, hv2⟩ := validD_on hne hv
      have hk := Lib.decodeL_le a hne
      have hw := Lib.decodeL_width a
      have hpl : 0 < a.length := List.length_pos_iff.2 hne
      have hp := decode_pre a (a.drop (Lib.decodeL a).2 ++ b) hne hg
      rw [← List.append_assoc, List.take_append_drop] at hp
      rw [Lib.validD_step (a ++ b) (by simp [hne]), hp, if_neg hg, List.drop_append_of_le_length (by omega)]
      exact validD_app (a.drop (Lib.decodeL a).2) b hv2
termination_by a => a.length
decreasing_by rw [List.length_drop]; omega
/-- The text that stands behind the escape of a control sign. -/
def wantS (c : Nat) : B8 := [117, 123] ++ (hexN c).map UInt8.ofNat ++ [125]
def ctl (c : Nat) : Bool := decide ((c < 32 ∨ c = 127) ∧ c ≠ 10)
/-- Behind a backslash: the byte that is meant, and how many bytes it takes. -/
def escS (l : B8) : Option (Nat × Nat) :=
  match l with
  | [] => none
  | b :: _ => if b = 34 ∨ b = 92 then some (b.toNat, 1) else if b = 110 then some (10, 1) else
    ((List.range 128).find? fun c => ctl c && Lib.hasPrefix l (wantS c)).map fun c => (c, (wantS c).length)
def runq : Nat → B8 → B8 → Nat → Option (B8 × Nat)
  | 0, _, _, _ => none
  | _ + 1, [], _, _ => none
  | f + 1, b :: t, acc, n => if b = 34 then (if Lib.validD acc then some (acc, n + 1) else none) else if b = 92 then
      (match escS t with | none => none | some (c, k) => runq f (t.drop k) (acc ++ [UInt8.ofNat c]) (n + 1 + k))
    else if b.toNat < 32 ∨ b = 127 then none else runq f t (acc ++ [b]) (n + 1)
def runquoteS (l : B8) : Option (B8 × Nat) := match l with | 34 :: t => runq l.length t [] 1 | _ => none
theorem want_digits {t : B8} {c : Nat} (hc : c < 128) (h : Lib.hasPrefix t (wantS c) = true) : ∃ u, t = 117 :: 123 :: u ∧ u.takeWhile (· != 125) = (hexN c).map UInt8.ofNat ∧ parse16 (u.takeWhile (· != 125)) = some c := by
  obtain ⟨v, hv⟩ := (hasPrefix_iff _ _).1 h
  have hx := hex_back ⟨c, hc⟩
  refine ⟨(hexN c).map UInt8.ofNat ++ 125 :: v, by rw [hv]; simp [wantS], ?_⟩
  have e := takeWhile_stop (· != 125) _ 125 v hx.2 (by decide)
  rw [e]
  exact ⟨rfl, hx.1⟩
theorem escS_lt {l : B8} {c k : Nat} (h : escS l = some (c, k)) : c < 128 ∧ k ≤ l.length ∧ 1 ≤ k := by
  unfold escS at h
  split at h
  · cases h
  · rename_i b t
    split at h
    · rename_i hb
      simp only [Option.some.injEq, Prod.mk.injEq] at h
      rcases hb with rfl | rfl
      · exact ⟨by rw [← h.1]; decide, by simp; omega, by omega⟩
      · exact ⟨by rw [← h.1]; decide, by simp; omega, by omega⟩
    · split at h
      · simp only [Option.some.injEq, Prod.mk.injEq] at h
        exact ⟨by omega, by simp; omega, by omega⟩
      · rw [Option.map_eq_some_iff] at h
        obtain ⟨x, hx, he⟩ := h
        have h1 := List.mem_of_find?_eq_some hx
        have h2 := List.find?_some hx
        simp only [Bool.and_eq_true] at h2
        simp only [Prod.mk.injEq] at he
        obtain ⟨v, hv⟩ := (hasPrefix_iff _ _).1 h2.2
        have e := congrArg List.length hv
        rw [List.length_append] at e
        rw [← he.1, ← he.2]
        exact ⟨List.mem_range.1 h1, by omega, by simp [wantS]⟩
theorem ctl_qr {c : Nat} (h : ctl c = true) : qr c = 92 :: wantS c := by
  simp only [ctl, decide_eq_true_eq] at h
  unfold qr wantS
  rw [if_neg (by omega), if_neg h.2, if_pos h.1]
  rfl
theorem no_prefix {b c : UInt8} {t u : B8} (h : b ≠ c) : Lib.hasPrefix (b :: t) (c :: u) = false := by
  have e : (c == b) = false := by simpa using Ne.symm h
  show (c == b && List.isPrefixOf u t) = false
  rw [e]; rfl
theorem no_prefix2 {x b c : UInt8} {t u : B8} (h : b ≠ c) : Lib.hasPrefix (x :: b :: t) (x :: c :: u) = false := by
  have := no_prefix (t := t) (u := u) h
  unfold Lib.hasPrefix at this ⊢
  simpa using this
theorem pre2 (x b : UInt8) (t : B8) : Lib.hasPrefix (x :: b :: t) [x, b] = true := hasPrefix_app [x, b] t
theorem escS_cons (b : UInt8) (t : B8) : escS (b :: t) = if b = 34 ∨ b = 92 then some (b.toNat, 1) else if b = 110 then some (10, 1) else
    ((List.range 128).find? fun c => ctl c && Lib.hasPrefix (b :: t) (wantS c)).map fun c => (c, (wantS c).length) := rfl
/-- An escape: what is meant is written just so, or it is none. -/
theorem esc_eq (t : B8) : (Lib.hasPrefix (92 :: t) (qr (meantS (92 :: t))) = true ∧ ∃ k, escS t = some (meantS (92 :: t), k) ∧ (qr (meantS (92 :: t))).length = k + 1 ∧ meantS (92 :: t) < 128) ∨
    (Lib.hasPrefix (92 :: t) (qr (meantS (92 :: t))) = false ∧ escS t = none) := by
  by_cases hU : Lib.hasPrefix (92 :: t) [92, 117, 123] = true
  · obtain ⟨u, hu⟩ := (hasPrefix_iff _ _).1 hU
    have ht : t = 117 :: 123 :: u := by simpa using hu
    have hm : meantS (92 :: t) = (parse16 (u.takeWhile (· != 125))).getD 65533 := by unfold meantS; rw [if_pos hU, ht]; rfl
    have hE : escS t = ((List.range 128).find? fun c => ctl c && Lib.hasPrefix t (wantS c)).map fun c => (c, (wantS c).length) := by
      rw [ht, escS_cons, if_neg (by decide), if_neg (by decide)]
    have hM := hm ▸ meantS_le (92 :: t)
    have key : ∀ c, c < 128 → Lib.hasPrefix t (wantS c) = true → meantS (92 :: t) = c := fun c hc h => by
      obtain ⟨u', e1, _, e3⟩ := want_digits hc h
      have : u' = u := by rw [ht] at e1; simpa using e1.symm
      subst this
      rw [hm, e3]; rfl
    rw [hE]
    have hMle := meantS_le (92 :: t)
    generalize meantS (92 :: t) = m at *
    cases hf : (List.range 128).find? fun c => ctl c && Lib.hasPrefix t (wantS c) with
    | some c =>
      have h1 := List.mem_range.1 (List.mem_of_find?_eq_some hf)
      have h2 := List.find?_some hf
      simp only [Bool.and_eq_true] at h2
      have e := key c h1 h2.2
      subst e
      obtain ⟨v, hv⟩ := (hasPrefix_iff _ _).1 h2.2
      refine .inl ⟨?_, (wantS m).length, rfl, by rw [ctl_qr h2.1]; rfl, h1⟩
      rw [ctl_qr h2.1, hv]
      exact hasPrefix_app (92 :: wantS m) v
    | none =>
      refine .inr ⟨?_, rfl⟩
      rw [List.find?_eq_none] at hf
      have hq : ∀ c u', qr m = 92 :: c :: u' → c = 34 ∨ c = 92 ∨ c = 110 → Lib.hasPrefix (92 :: t) (qr m) = false := fun c u' e h => by
        rw [e, ht]
        refine no_prefix2 ?_
        rcases h with rfl | rfl | rfl <;> decide
      by_cases g1 : m = 34 ∨ m = 92
      · refine hq (UInt8.ofNat m) [] (by unfold qr; rw [if_pos g1]) ?_
        rcases g1 with rfl | rfl <;> decide
      by_cases g2 : m = 10
      · exact hq 110 [] (by unfold qr; rw [if_neg g1, if_pos g2]) (by decide)
      by_cases g3 : m < 32 ∨ m = 127
      · have hc : ctl m = true := by unfold ctl; exact decide_eq_true ⟨g3, g2⟩
        have := hf m (List.mem_range.2 (by omega))
        rw [hc, Bool.true_and] at this
        rw [ctl_qr hc]
        cases hx : Lib.hasPrefix (92 :: t) (92 :: wantS m) with
        | false => rfl
        | true =>
          obtain ⟨v, hv⟩ := (hasPrefix_iff _ _).1 hx
          exact absurd ((hasPrefix_iff _ _).2 ⟨v, by simpa using hv⟩) this
      · have e : qr m = Lib.encodeRune (m : Int) := by unfold qr; rw [if_neg g1, if_neg g2, if_neg g3]
        rw [e]
        by_cases h8 : m < 128
        · rw [encodeRune_lo h8]
          refine no_prefix fun h => ?_
          have h' := (toNat_lit (c := 92) (n := m) (by omega)).1 h
          have : m = 92 := h'.symm
          omega
        · obtain ⟨b, v, e2, hb⟩ := encodeRune_hi (by omega) hMle
          rw [e2]
          refine no_prefix fun h => ?_
          subst h
          exact absurd hb (by decide)
  · have hU' : Lib.hasPrefix (92 :: t) [92, 117, 123] = false := by simpa using hU
    cases t with
    | nil => exact .inr ⟨by decide +kernel, rfl⟩
    | cons b t =>
      by_cases h1 : b = 110
      · subst h1
        have e : meantS (92 :: 110 :: t) = 10 := by unfold meantS; rw [if_neg hU, if_pos (pre2 92 110 t)]
        rw [e]
        exact .inl ⟨hasPrefix_app [92, 110] t, 1, rfl, rfl, by omega⟩
      have n1 : Lib.hasPrefix (92 :: b :: t) [92, 110] = false := no_prefix2 h1
      by_cases h2 : b = 34
      · subst h2
        have e : meantS (92 :: 34 :: t) = 34 := by unfold meantS; rw [if_neg hU, if_neg (by rw [n1]; simp), if_pos (pre2 92 34 t)]
        rw [e]
        exact .inl ⟨hasPrefix_app [92, 34] t, 1, rfl, rfl, by omega⟩
      have n2 : Lib.hasPrefix (92 :: b :: t) [92, 34] = false := no_prefix2 h2
      by_cases h3 : b = 92
      · subst h3
        have e : meantS (92 :: 92 :: t) = 92 := by unfold meantS; rw [if_neg hU, if_neg (by rw [n1]; simp), if_neg (by rw [n2]; simp), if_pos (pre2 92 92 t)]
        rw [e]
        exact .inl ⟨hasPrefix_app [92, 92] t, 1, rfl, rfl, by omega⟩
      have n3 : Lib.hasPrefix (92 :: b :: t) [92, 92] = false := no_prefix2 h3
      have e : meantS (92 :: b :: t) = 65533 := by unfold meantS; rw [if_neg hU, if_neg (by rw [n1]; simp), if_neg (by rw [n2]; simp), if_neg (by rw [n3]; simp)]
      rw [e]
      refine .inr ⟨by rw [show qr 65533 = [239, 191, 189] by decide +kernel]; exact no_prefix (by decide), ?_⟩
      rw [escS_cons, if_neg (by simp [h2, h3]), if_neg h1]
      simp only [Option.map_eq_none_iff, List.find?_eq_none, List.mem_range, Bool.and_eq_true, not_and]
      intro c hc _ h
      obtain ⟨u, hu, _⟩ := want_digits hc h
      rw [hu] at hU
      exact hU (hasPrefix_app [92, 117, 123] u)
theorem runq_cons (f : Nat) (b : UInt8) (t acc : B8) (n : Nat) : runq (f + 1) (b :: t) acc n = if b = 34 then (if Lib.validD acc then some (acc, n + 1) else none) else if b = 92 then
      (match escS t with | none => none | some (c, k) => runq f (t.drop k) (acc ++ [UInt8.ofNat c]) (n + 1 + k))
    else if b.toNat < 32 ∨ b = 127 then none else runq f t (acc ++ [b]) (n + 1) := rfl
theorem runq_hi : ∀ (p t acc : B8) (n f : Nat), (∀ b ∈ p, 128 ≤ b.toNat) → runq (f + p.length) (p ++ t) acc n = runq f t (acc ++ p) (n + p.length)
  | [], t, acc, n, f, _ => by simp
  | b :: p, t, acc, n, f, h => by
    have hb := h b (by simp)
    have k : ∀ x : UInt8, x.toNat < 128 → b ≠ x := fun x hx e => by subst e; omega
    have ih := runq_hi p t (acc ++ [b]) (n + 1) f fun c hc => h c (by simp [hc])
    show runq (f + p.length + 1) (b :: (p ++ t)) acc n = _
    rw [runq_cons, if_neg (k 34 (by decide)), if_neg (k 92 (by decide)), if_neg (by rintro (h | h); (· omega); (· exact k 127 (by decide) h)), ih]
    rw [List.append_assoc, Nat.add_assoc, Nat.add_comm 1]
    rfl
theorem runq_shape : ∀ (f : Nat) (rest acc : B8) (n : Nat) (x : B8) (m : Nat), runq f rest acc n = some (x, m) → Lib.validD x = true ∧ ∃ D, x = acc ++ rest.takeWhile (fun b => decide (128 ≤ b.toNat)) ++ D ∧ (D = [] ∨ ∃ c t, D = c :: t ∧ c.toNat < 128)
  | 0, rest, acc, n, x, m, h => by cases h
  | f + 1, [], acc, n, x, m, h => by cases h
  | f + 1, b :: t, acc, n, x, m, h => by
    unfold runq at h
    split at h
    · rename_i hb
      subst hb
      split at h
      · simp only [Option.some.injEq, Prod.mk.injEq] at h
        rw [← h.1]
        exact ⟨by assumption, [], by simp, .inl rfl⟩
      · cases h
    · split at h
      · rename_i hb
        subst hb
        split at h
        · cases h
        · rename_i c k he
          obtain ⟨h1, D, e, _⟩ := runq_shape f _ _ _ x m h
          have hc := (escS_lt he).1
          refine ⟨h1, UInt8.ofNat c :: ((t.drop k).takeWhile (fun b => decide (128 ≤ b.toNat)) ++ D), by rw [e]; simp, .inr ⟨_, _, rfl, by simp; omega⟩⟩
      · split at h
        · cases h
        · obtain ⟨h1, D, e, hD⟩ := runq_shape f _ _ _ x m h
          refine ⟨h1, ?_⟩
          by_cases hb : 128 ≤ b.toNat
          · exact ⟨D, by rw [e, List.takeWhile_cons, if_pos (by simpa using hb)]; simp, hD⟩
          · exact ⟨b :: (t.takeWhile (fun b => decide (128 ≤ b.toNat)) ++ D), by rw [e, List.takeWhile_cons, if_neg (by simpa using hb)]; simp, .inr ⟨_, _, rfl, by omega⟩⟩
theorem unq_eq : ∀ (rest acc : B8) (n f g : Nat), Lib.validD acc = true → rest.length < f → rest.length < g → unqF f rest acc n = runq g rest acc n
  | [], acc, n, f, g, hv, hf, hg => by
    obtain ⟨g, rfl⟩ : ∃ k, g = k + 1 := ⟨g - 1, by simp at hg; omega⟩
    rw [unqF_nil]; rfl
  | b :: t, acc, n, f, g, hv, hf, hg => by
    obtain ⟨f, rfl⟩ : ∃ k, f = k + 1 := ⟨f - 1, by omega⟩
    obtain ⟨g, rfl⟩ : ∃ k, g = k + 1 := ⟨g - 1, by omega⟩
    simp only [List.length_cons] at hf hg
    by_cases hb : b.toNat < 128
    · have hd : Lib.decodeL (b :: t) = (b.toNat, 1) := Lib.decodeL_ascii b t hb
      by_cases h1 : b = 34
      · subst h1
        show (if _ then _ else _) = (if _ then _ else _)
        rw [if_neg (by simp), hd, if_pos (by decide), if_pos rfl, if_pos hv]
      have h1' : b.toNat ≠ 34 := fun e => h1 ((toNat_lit (n := 34) (by omega)).2 e)
      by_cases h2 : b = 92
      · subst h2
        have hn : nx (92 :: t) = meantS (92 :: t) := by unfold nx; rw [hd, if_pos (by decide)]
        have hlhs : unqF (f + 1) (92 :: t) acc n = if Lib.hasPrefix (92 :: t) (qr (nx (92 :: t))) then unqF f ((92 :: t).drop (qr (nx (92 :: t))).length) (acc ++ Lib.encodeRune (nx (92 :: t) : Int)) (n + (qr (nx (92 :: t))).length) else none := by
          show (if _ then _ else _) = _
          rw [if_neg (by simp), hd, if_neg (by decide)]
        have hrhs : runq (g + 1) (92 :: t) acc n = (match escS t with | none => none | some (c, k) => runq g (t.drop k) (acc ++ [UInt8.ofNat c]) (n + 1 + k)) := rfl
        rw [hlhs, hrhs, hn]
        rcases esc_eq t with ⟨e1, k, e2, e3, e4⟩ | ⟨e1, e2⟩
        · have hk := escS_lt e2
          rw [e1, e2, e3, encodeRune_lo e4]
          simp only [if_true, List.drop_succ_cons]
          have hvv : Lib.validD (acc ++ [UInt8.ofNat (meantS (92 :: t))]) = true := by
            rw [validD_app _ _ hv, Lib.validD_cons _ _ (by simp; omega)]
            exact Lib.validD_nil
          rw [unq_eq (t.drop k) _ (n + (k + 1)) f g hvv (by rw [List.length_drop]; omega) (by rw [List.length_drop]; omega)]
          congr 1
          omega
        · rw [e1, e2]
          simp
      have h2' : b.toNat ≠ 92 := fun e => h2 ((toNat_lit (n := 92) (by omega)).2 e)
      have hn : nx (b :: t) = b.toNat := by unfold nx; rw [hd, if_neg h2']
      have hlhs : unqF (f + 1) (b :: t) acc n = if Lib.hasPrefix (b :: t) (qr b.toNat) then unqF f ((b :: t).drop (qr b.toNat).length) (acc ++ Lib.encodeRune (b.toNat : Int)) (n + (qr b.toNat).length) else none := by
        show (if _ then _ else _) = _
        rw [if_neg (by simp), hd, if_neg h1', hn]
      have e7 : b = 127 ↔ b.toNat = 127 := toNat_lit (n := 127) (by omega)
      by_cases h3 : b.toNat < 32 ∨ b = 127
      · have hq : ∃ u, qr b.toNat = 92 :: u := by
          rw [e7] at h3
          unfold qr
          rw [if_neg (by omega)]
          split
          · exact ⟨_, rfl⟩
          · first | exact ⟨_, rfl⟩ | (rw [if_pos h3]; exact ⟨_, rfl⟩)
        obtain ⟨u, hq⟩ := hq
        rw [hlhs, hq, no_prefix h2]
        unfold runq
        rw [if_neg h1, if_neg h2, if_pos h3]
        rfl
      · have h3' := h3
        rw [e7] at h3
        have hq : qr b.toNat = [b] := by
          unfold qr
          rw [if_neg (by omega), if_neg (by omega), if_neg h3, encodeRune_lo hb]
          simp
        have hvv : Lib.validD (acc ++ [b]) = true := by
          rw [validD_app _ _ hv, Lib.validD_cons _ _ hb]
          exact Lib.validD_nil
        have hp : Lib.hasPrefix (b :: t) [b] = true := hasPrefix_app [b] t
        rw [hlhs, hq, hp, encodeRune_lo hb]
        unfold runq
        rw [if_neg h1, if_neg h2, if_neg h3']
        simp only [if_true, List.length_singleton, List.drop_succ_cons, List.drop_zero, UInt8.ofNat_toNat]
        exact unq_eq t _ _ f g hvv (by omega) (by omega)
    · have hb' : 128 ≤ b.toNat := by omega
      have hne : b :: t ≠ [] := by simp
      have h92 : (Lib.decodeL (b :: t)).1 = 65533 ∧ (Lib.decodeL (b :: t)).2 = 1 ∨ ¬ ((Lib.decodeL (b :: t)).1 = 65533 ∧ (Lib.decodeL (b :: t)).2 = 1) := Classical.em _
      rcases h92 with hbad | hg'
      · have hn : nx (b :: t) = 65533 := by unfold nx; rw [hbad.1]; rfl
        have hq : qr 65533 = [239, 191, 189] := by decide +kernel
        have hp : Lib.hasPrefix (b :: t) (qr 65533) = false := by
          cases hx : Lib.hasPrefix (b :: t) (qr 65533) with
          | false => rfl
          | true =>
            obtain ⟨v, hv'⟩ := (hasPrefix_iff _ _).1 hx
            rw [hq] at hv'
            have e3 : Lib.decodeL (b :: t) = (65533, 3) := by rw [hv']; exact decode_fffd v
            rw [e3] at hbad
            exact absurd hbad.2 (by decide)
        have hlhs : unqF (f + 1) (b :: t) acc n = none := by
          show (if _ then _ else _) = _
          rw [if_neg (by simp), if_neg (by rw [hbad.1]; decide), hn, hp]
          rfl
        rw [hlhs]
        cases hr : runq (g + 1) (b :: t) acc n with
        | none => rfl
        | some y =>
          exfalso
          obtain ⟨x, m⟩ := y
          obtain ⟨hx, D, e, hD⟩ := runq_shape _ _ _ _ _ _ hr
          rw [e, List.append_assoc, validD_app _ _ hv] at hx
          have htw : (b :: t).takeWhile (fun b => decide (128 ≤ b.toNat)) = b :: t.takeWhile (fun b => decide (128 ≤ b.toNat)) := by rw [List.takeWhile_cons, if_pos (by simpa using hb')]
          have hpre : ∃ u, b :: t = (b :: t).takeWhile (fun b => decide (128 ≤ b.toNat)) ++ u := ⟨(b :: t).dropWhile (fun b => decide (128 ≤ b.toNat)), by rw [List.takeWhile_append_dropWhile]⟩
          obtain ⟨u, hu⟩ := hpre
          have hpn : (b :: t).takeWhile (fun b => decide (128 ≤ b.toNat)) ≠ [] := by rw [htw]; simp
          have hph : ∃ q, (b :: t).takeWhile (fun b => decide (128 ≤ b.toNat)) = b :: q := ⟨_, htw⟩
          generalize (b :: t).takeWhile (fun b => decide (128 ≤ b.toNat)) = p at *
          obtain ⟨hgp, _⟩ := validD_on (by simp [hpn]) hx
          have hk : (Lib.decodeL (p ++ D)).2 ≤ p.length := by
            rcases rune_head (p ++ D) (by simp [hpn]) hgp with ⟨h1, h2⟩ | ⟨h1, h2⟩
            · have e : ((p ++ D).take (Lib.decodeL (p ++ D)).2).length = 1 := by rw [h2]; rfl
              have h5 := Lib.decodeL_le (p ++ D) (by simp [hpn])
              have h6 := List.length_pos_iff.2 hpn
              rw [List.length_take] at e
              omega
            · rcases hD with rfl | ⟨c, v, rfl, hc⟩
              · have := Lib.decodeL_le (p ++ []) (by simp [hpn])
                simpa using this
              · refine Nat.le_of_not_lt fun hlt => ?_
                have hmem : c ∈ (p ++ c :: v).take (Lib.decodeL (p ++ c :: v)).2 := by
                  refine List.mem_of_getElem? (i := p.length) ?_
                  rw [List.getElem?_take, if_pos hlt]
                  simp
                have := h2 c hmem
                omega
          have hpp := decode_pre (p ++ D) (p.drop (Lib.decodeL (p ++ D)).2 ++ u) (by simp [hpn]) hgp
          rw [List.take_append_of_le_length hk, ← List.append_assoc, List.take_append_drop] at hpp
          rw [hu, hpp] at hbad
          exact hgp hbad
      · have hw := Lib.decodeL_width (b :: t)
        have hk := Lib.decodeL_le (b :: t) hne
        have hE := Lib.encode_decode (b :: t) hne hg'
        have hrl := Lib.decodeL_rune (b :: t)
        have h1 : 128 ≤ (Lib.decodeL (b :: t)).1 ∧ ∀ c ∈ (b :: t).take (Lib.decodeL (b :: t)).2, 128 ≤ c.toNat := by
          rcases rune_head (b :: t) hne hg' with ⟨h1, h2⟩ | h
          · exfalso
            have e := congrArg (fun l => l[0]?) h2
            simp only [List.getElem?_take] at e
            rw [if_pos (by omega)] at e
            simp only [List.getElem?_cons_zero, Option.some.injEq] at e
            rw [e] at hb'
            simp at hb'
            omega
          · exact h
        obtain ⟨h1, h2⟩ := h1
        have hn : nx (b :: t) = (Lib.decodeL (b :: t)).1 := by unfold nx; rw [if_neg (by omega)]
        have hq : qr (Lib.decodeL (b :: t)).1 = (b :: t).take (Lib.decodeL (b :: t)).2 := by
          rw [← hE]
          unfold qr
          rw [if_neg (by omega), if_neg (by omega), if_neg (by omega)]
        have hvp : Lib.validD ((b :: t).take (Lib.decodeL (b :: t)).2) = true := by
          have hl : ((b :: t).take (Lib.decodeL (b :: t)).2) ≠ [] := by
            intro h
            have := congrArg List.length h
            rw [List.length_take] at this
            simp at this
            omega
          have := decode_pre (b :: t) [] hne hg'
          rw [List.append_nil] at this
          rw [Lib.validD_step _ hl, this, if_neg hg', List.drop_of_length_le (by rw [List.length_take]; omega)]
          exact Lib.validD_nil
        have hsplit : b :: t = (b :: t).take (Lib.decodeL (b :: t)).2 ++ (b :: t).drop (Lib.decodeL (b :: t)).2 := by rw [List.take_append_drop]
        have hlen : ((b :: t).take (Lib.decodeL (b :: t)).2).length = (Lib.decodeL (b :: t)).2 := by rw [List.length_take]; omega
        have hp : Lib.hasPrefix (b :: t) ((b :: t).take (Lib.decodeL (b :: t)).2) = true := (hasPrefix_iff _ _).2 ⟨_, hsplit⟩
        have hlhs : unqF (f + 1) (b :: t) acc n = unqF f ((b :: t).drop (Lib.decodeL (b :: t)).2) (acc ++ (b :: t).take (Lib.decodeL (b :: t)).2) (n + (Lib.decodeL (b :: t)).2) := by
          show (if _ then _ else _) = _
          rw [if_neg (by simp), if_neg (by omega), hn, hq, hp, hE, hlen]
          rfl
        have hrhs := runq_hi ((b :: t).take (Lib.decodeL (b :: t)).2) ((b :: t).drop (Lib.decodeL (b :: t)).2) acc n (g + 1 - (Lib.decodeL (b :: t)).2) h2
        rw [hlen, List.take_append_drop, Nat.sub_add_cancel (by simp at hk; omega)] at hrhs
        rw [hlhs, hrhs]
        have hd : ((b :: t).drop (Lib.decodeL (b :: t)).2).length = t.length + 1 - (Lib.decodeL (b :: t)).2 := by rw [List.length_drop]; rfl
        have hk' : (Lib.decodeL (b :: t)).2 ≤ t.length + 1 := hk
        exact unq_eq _ _ _ f _ (by rw [validD_app _ _ hv]; exact hvp) (by omega) (by omega)
termination_by rest => rest.length
decreasing_by
  all_goals simp_wf
  all_goals omega
theorem unquote_eq (l : B8) : unquoteS l = runquoteS l := by
  unfold unquoteS runquoteS
  split
  · rename_i h
    obtain ⟨t, ht⟩ := (hasPrefix_iff _ _).1 h
    subst ht
    exact unq_eq t [] 1 _ _ Lib.validD_nil (by simp) (by simp)
  · rename_i h
    split
    · rename_i t
      exact absurd (hasPrefix_app [34] t) h
    · rfl
end Go.Proofs.YtlhodanpfpfodaaGreatDoor
