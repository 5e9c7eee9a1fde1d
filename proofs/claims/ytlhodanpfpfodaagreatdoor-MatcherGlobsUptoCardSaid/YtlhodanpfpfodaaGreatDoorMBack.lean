/-
  A query's text, printed and read again: mathematics alone. Conditions: those that each theorem names.
-/
import Derived.Test.YtlhodanpfpfodaaGreatDoorMPar
import Derived.Test.YtlhodanpfpfodaaGreatDoorQBack
import Derived.Lib.Join
import Derived.Lib.ItoaMem
import Derived.Lib.AtoiAllCases
namespace Go.Proofs.YtlhodanpfpfodaaGreatDoor
open Go.RowKit Go.Icz
/-- One match as a text. -/
def mtS (m : Mt) : B8 := m.name ++ (signB m.op.toNat ++ quoteS m.val)
theorem nameTail_word : ∀ (l : B8) (i : Nat), nameTail i l = true → ∀ c ∈ l, nameEnd c = false
  | [], _, _, c, hc => by simp at hc
  | b :: t, i, h, c, hc => by
    simp only [nameTail, Bool.and_eq_true] at h
    rcases List.mem_cons.1 hc with rfl | hc
    · have h1 := h.1
      cases he : nameEnd c with
      | false => rfl
      | true =>
        exfalso
        unfold nameEnd at he
        simp only [Bool.or_eq_true, beq_iff_eq] at he
        rcases he with (rfl | rfl) | rfl <;> simp [letter, digit] at h1
    · exact nameTail_word t (i + 1) h.2 c hc
theorem name_ok {l : B8} (h : nameS l = true) : l ≠ [] ∧ ∀ c ∈ l, nameEnd c = false := by
  simp only [nameS, Bool.and_eq_true, decide_eq_true_eq] at h
  exact ⟨fun e => by subst e; simp at h, nameTail_word l 0 h.2⟩
theorem nameEnd_blank {c : UInt8} (h : nameEnd c = false) : c ≠ 32 := fun e => by subst e; cases h
theorem quote_head {v : B8} (hv : Lib.validD v = true) (u : B8) : ∃ x, quoteS v ++ u = 34 :: x := by
  rw [(unquote_quote v u hv).1]
  exact ⟨qbody v ++ [34] ++ u, by simp⟩
theorem op_back {o : Int} (h : 1 ≤ o ∧ o ≤ 4) (x : B8) : opS (signB o.toNat ++ 34 :: x) = some (o.toNat, 34 :: x) ∧ ∃ c y, signB o.toNat ++ 34 :: x = c :: y ∧ (c = 61 ∨ c = 33) := by
  rcases (by omega : o = 1 ∨ o = 2 ∨ o = 3 ∨ o = 4) with rfl | rfl | rfl | rfl
  · exact ⟨rfl, _, _, rfl, .inl rfl⟩
  · exact ⟨rfl, _, _, rfl, .inr rfl⟩
  · exact ⟨rfl, _, _, rfl, .inl rfl⟩
  · exact ⟨rfl, _, _, rfl, .inr rfl⟩
theorem match_back {m : Mt} (hm : okM m = true) {s u : B8} (h : trimL s = mtS m ++ u) : matchS s = some (m, trimL u) := by
  simp only [okM, textS, Bool.and_eq_true, decide_eq_true_eq] at hm
  obtain ⟨⟨ho, hn⟩, _, hv⟩ := hm
  obtain ⟨nne, nok⟩ := name_ok hn
  obtain ⟨x, hx⟩ := quote_head hv u
  obtain ⟨o1, c, y, o2, o3⟩ := op_back ho x
  have e : trimL s = m.name ++ (c :: y) := by rw [h, mtS, List.append_assoc, List.append_assoc, hx, o2]
  have hcne : c ≠ 32 := by rcases o3 with rfl | rfl <;> decide
  obtain ⟨t1, t2⟩ := takeWhile_all (p := fun c => !nameEnd c) m.name (c :: y) (fun z hz => by rw [nok z hz]; rfl) (fun b v e => by
    injection e with e1 _
    subst e1
    rcases o3 with rfl | rfl <;> rfl)
  unfold matchS
  rw [e, t1, t2, if_neg (by simp), trimL_head hcne, ← o2, o1]
  simp only
  rw [trimL_head (by decide), ← hx, (unquote_quote m.val u hv).2]
  simp only [List.drop_left]
  rw [Int.toNat_of_nonneg (by omega)]
theorem mt_trim {m : Mt} (hm : okM m = true) (u : B8) : trimL (mtS m ++ u) = mtS m ++ u := by
  simp only [okM, textS, Bool.and_eq_true, decide_eq_true_eq] at hm
  obtain ⟨nne, nok⟩ := name_ok hm.1.2
  rw [mtS, List.append_assoc]
  exact trimL_good nne (fun b hb => nameEnd_blank (nok b hb)) _
theorem mts_back (u : B8) : ∀ (ms : List Mt) (m : Mt) (acc : List Mt) (f : Nat) (s : B8), okM m = true → (∀ x ∈ ms, okM x = true) → ms.length < f → trimL s = mtS m ++ (Lib.joinTail [44, 32] (ms.map mtS) ++ 125 :: u) → matchesS f s acc = some (acc ++ m :: ms, u)
  | [], m, acc, f + 1, s, hm, _, _, h => by
    have := match_back hm h
    have e : trimL (Lib.joinTail [44, 32] (([] : List Mt).map mtS) ++ 125 :: u) = 125 :: u := trimL_head (c := 125) (by decide) u
    unfold matchesS
    rw [this, e]
    rfl
  | m2 :: ms, m, acc, f + 1, s, hm, hms, hf, h => by
    have := match_back hm h
    have e : trimL (Lib.joinTail [44, 32] ((m2 :: ms).map mtS) ++ 125 :: u) = 44 :: (32 :: (mtS m2 ++ (Lib.joinTail [44, 32] (ms.map mtS) ++ 125 :: u))) := by
      have e1 : Lib.joinTail [44, 32] ((m2 :: ms).map mtS) ++ 125 :: u = 44 :: (32 :: (mtS m2 ++ (Lib.joinTail [44, 32] (ms.map mtS) ++ 125 :: u))) := by
        simp [Lib.joinTail]
      rw [e1]
      exact trimL_head (by decide) _
    unfold matchesS
    rw [this, e]
    simp only
    have h2 := hms m2 (by simp)
    rw [mts_back u ms m2 (acc ++ [m]) f _ h2 (fun x hx => hms x (by simp [hx])) (by simp at hf; omega) (by rw [trimL_blank]; exact mt_trim h2 _)]
    simp
theorem head_back {ms : List Mt} (hms : ∀ x ∈ ms, okM x = true) (h8 : ms.length ≤ 8) {s u : B8} (h : trimL s = 123 :: (Lib.join (ms.map mtS) [44, 32] ++ 125 :: u)) : headS s = some (ms, u) := by
  cases ms with
  | nil => exact headS_empty h (trimL_head (by decide) u)
  | cons m ms =>
    have hm := hms m (by simp)
    rw [List.map_cons, Lib.join_cons, List.append_assoc] at h
    have e := mt_trim hm (Lib.joinTail [44, 32] (ms.map mtS) ++ 125 :: u)
    have hne : ∀ v, trimL (mtS m ++ (Lib.joinTail [44, 32] (ms.map mtS) ++ 125 :: u)) ≠ 125 :: v := by
      rw [e]
      intro v hv
      simp only [okM, textS, Bool.and_eq_true, decide_eq_true_eq] at hm
      have hn := hm.1.2
      simp only [nameS, Bool.and_eq_true, decide_eq_true_eq] at hn
      cases hc : m.name with
      | nil => rw [hc] at hn; simp at hn
      | cons c t =>
        rw [hc] at hn
        rw [mtS, hc] at hv
        simp only [List.cons_append] at hv
        injection hv with hv _
        subst hv
        have := hn.2
        simp [nameTail, letter, digit] at this
    rw [headS_some h hne, mts_back u ms m [] 8 _ hm (fun x hx => hms x (by simp [hx])) (by simp at h8; omega) (by rw [e]; exact e)]
    rfl
/-- What a text begins with behind its blanks. -/
def Hd (l : B8) (s : B8) : Prop := ∀ c x, trimL s = c :: x → c ∈ l
def Bl (s : B8) : Prop := s = [] ∨ ∃ t, s = 32 :: t
theorem Bl.app {a b : B8} (h : Bl a) (k : Bl b) : Bl (a ++ b) := by
  rcases h with rfl | ⟨t, rfl⟩
  · exact k
  · exact .inr ⟨t ++ b, rfl⟩
theorem wordP_hd {l s n : B8} {c : UInt8} (h : Hd l s) (hc : c ∉ l) : wordP (c :: n) s = none := by
  unfold wordP
  split
  · rename_i t
    rw [if_neg]
    intro hp
    obtain ⟨u, hu⟩ := (hasPrefix_iff _ _).1 hp
    exact hc (h c (n ++ u) (by rw [trimL_blank]; exact hu))
  · rfl
theorem wordP_this {n u : B8} {c : UInt8} (hc : c ≠ 32) : wordP (c :: n) (32 :: ((c :: n) ++ u)) = some u := by
  unfold wordP
  have e : Lib.trimLeftB ((c :: n) ++ u) 32 = (c :: n) ++ u := trimL_head hc _
  simp only
  rw [e, if_pos ((hasPrefix_iff _ _).2 ⟨u, rfl⟩), List.drop_left]
theorem dec_dig (u : Nat) : Lib.decDigits u ≠ [] ∧ ∀ c ∈ Lib.decDigits u, 48 ≤ c.toNat ∧ c.toNat ≤ 57 := by
  induction u using Nat.strongRecOn with
  | _ u ih =>
    rw [Lib.decDigits]
    split
    · rename_i h
      refine ⟨by simp, fun c hc => ?_⟩
      rw [List.mem_singleton] at hc
      subst hc
      rw [UInt8.toNat_ofNat_of_lt' (by show 48 + u < 256; omega)]
      omega
    · rename_i h
      refine ⟨by simp, fun c hc => ?_⟩
      rcases List.mem_append.1 hc with hc | hc
      · exact (ih (u / 10) (by omega)).2 c hc
      · rw [List.mem_singleton] at hc
        subst hc
        rw [UInt8.toNat_ofNat_of_lt' (by show 48 + u % 10 < 256; omega)]
        omega
theorem parse_dec (u : Nat) (r : B8) (hu : u < 18446744073709551616) : Lib.parseUint10 0 (Lib.decDigits u ++ r) = Lib.parseUint10 u r := by
  induction u using Nat.strongRecOn generalizing r with
  | _ u ih =>
    rw [Lib.decDigits]
    split
    · rename_i h
      have e : (UInt8.ofNat (48 + u)).toNat = 48 + u := UInt8.toNat_ofNat_of_lt' (by show 48 + u < 256; omega)
      rw [List.singleton_append, Lib.parseUint10, e, if_pos (by omega), if_neg (by omega), if_neg (by omega)]
      congr 1
      omega
    · rename_i h
      have e : (UInt8.ofNat (48 + u % 10)).toNat = 48 + u % 10 := UInt8.toNat_ofNat_of_lt' (by show 48 + u % 10 < 256; omega)
      rw [List.append_assoc, ih (u / 10) (by omega) _ (by omega), List.singleton_append, Lib.parseUint10, e, if_pos (by omega), if_neg (by omega), if_neg (by omega)]
      congr 1
      omega
theorem numV_back {n : Int} (h0 : 0 ≤ n) (h1 : n < 9223372036854775808) : numV (Lib.itoa n) = (n, true) := by
  obtain ⟨u, rfl⟩ := Int.eq_ofNat_of_zero_le h0
  obtain ⟨d1, d2⟩ := dec_dig u
  have ei : Lib.itoa (u : Int) = Lib.decDigits u := Lib.itoa_nonneg u
  have hp := parse_dec u [] (by omega)
  rw [List.append_nil] at hp
  have ea : Lib.atoiAll (Lib.decDigits u) = .ok (u : Int) := by
    cases hd : Lib.decDigits u with
    | nil => exact absurd hd d1
    | cons c r =>
      have hc := d2 c (by rw [hd]; simp)
      rw [Lib.atoiAll_plain c r (by omega) (by omega), ← hd, Lib.parseMag, if_neg d1, hp]
      show Lib.signless (.ok u) = _
      unfold Lib.signless
      simp only
      rw [if_neg (by omega)]
  unfold numV
  rw [ei, ea]
  simp only
  rw [ei]
  simp
theorem dig_all {n : Int} (h0 : 0 ≤ n) : Lib.itoa n ≠ [] ∧ ∀ c ∈ Lib.itoa n, dch c = true := by
  obtain ⟨u, rfl⟩ := Int.eq_ofNat_of_zero_le h0
  rw [Lib.itoa_nonneg u]
  obtain ⟨d1, d2⟩ := dec_dig u
  refine ⟨d1, fun c hc => ?_⟩
  have := d2 c hc
  simp only [dch, digit, decide_eq_true_eq]
  omega
/-- The words of a query's text. -/
def hasT (h : B8) : B8 := if h = [] then [] else 32 :: ([104, 97, 115] ++ 32 :: quoteS h)
def numT (name : B8) (d n : Int) : B8 := if n = d then [] else 32 :: (name ++ 32 :: Lib.itoa n)
def newT (b : Bool) : B8 := if b = true then 32 :: [110, 101, 119, 101, 115, 116] else []
theorem num_bl (name : B8) (d n : Int) : Bl (numT name d n) := by
  unfold numT
  split
  · exact .inl rfl
  · exact .inr ⟨_, rfl⟩
theorem num_hd {l T n : B8} {c : UInt8} {d v : Int} (hc : c ≠ 32) (h : Hd l T) : Hd (c :: l) (numT (c :: n) d v ++ T) := by
  unfold numT
  split
  · exact fun a x e => List.mem_cons_of_mem _ (h a x e)
  · intro a x e
    rw [List.cons_append, trimL_blank, List.append_assoc, List.cons_append, trimL_head hc] at e
    injection e with e _
    subst e
    simp
theorem num_back {l T n : B8} {c : UInt8} {d v : Int} (hc : c ≠ 32) (hl : c ∉ l) (h : Hd l T) (hb : Bl T) (h0 : 0 ≤ v) (h1 : v < 9223372036854775808) : numStep (c :: n) d (numT (c :: n) d v ++ T) = some (T, v) := by
  unfold numT
  split
  · rename_i e
    unfold numStep
    rw [List.nil_append, wordP_hd h hl]
    simp only
    rw [e]
  · unfold numStep
    have e1 : 32 :: ((c :: n) ++ 32 :: Lib.itoa v) ++ T = 32 :: ((c :: n) ++ (32 :: (Lib.itoa v ++ T))) := by simp
    rw [e1, wordP_this hc]
    obtain ⟨d1, d2⟩ := dig_all h0
    obtain ⟨t1, t2⟩ := takeWhile_all (p := dch) (Lib.itoa v) T d2 (fun b u e => by
      rcases hb with rfl | ⟨t, rfl⟩
      · cases e
      · injection e with e _
        subst e
        rfl)
    have e2 : trimL (32 :: (Lib.itoa v ++ T)) = Lib.itoa v ++ T := by
      rw [trimL_blank]
      refine trimL_good d1 (fun b hb e => ?_) T
      have := d2 b hb
      subst e
      cases this
    simp only
    rw [e2, t1, t2, numV_back h0 h1]
    simp [blankS]
theorem has_back {l T v : B8} (hl : (104 : UInt8) ∉ l) (h : Hd l T) (hv : Lib.validD v = true) : hasStep (hasT v ++ T) [] = some (T, v) := by
  unfold hasT
  split
  · rename_i e
    unfold hasStep
    rw [List.nil_append, wordP_hd h hl]
    simp only
    rw [e]
  · unfold hasStep
    have e1 : 32 :: ([104, 97, 115] ++ 32 :: quoteS v) ++ T = 32 :: ([104, 97, 115] ++ (32 :: (quoteS v ++ T))) := by simp
    rw [e1, wordP_this (by decide)]
    obtain ⟨x, hx⟩ := quote_head hv T
    have e2 : trimL (32 :: (quoteS v ++ T)) = quoteS v ++ T := by rw [trimL_blank, hx]; exact trimL_head (by decide) _
    simp only
    rw [e2]
    unfold quotedOut
    rw [(unquote_quote v T hv).2]
    simp [blankS]
theorem trimL_blanks : ∀ (b x : B8), (∀ c ∈ b, c = 32) → trimL (b ++ x) = trimL x
  | [], _, _ => rfl
  | c :: b, x, h => by
    have := h c (by simp)
    subst this
    rw [List.cons_append, trimL_blank]
    exact trimL_blanks b x fun c hc => h c (by simp [hc])
theorem blanks_bl {b : B8} (h : ∀ c ∈ b, c = 32) : Bl b ∧ trimL b = [] := by
  constructor
  · cases b with
    | nil => exact .inl rfl
    | cons c t =>
      have := h c (by simp)
      subst this
      exact .inr ⟨t, rfl⟩
  · have := trimL_blanks b [] h
    rw [List.append_nil] at this
    rw [this]
    rfl
theorem new_back {b : Bool} {suf : B8} (h : ∀ c ∈ suf, c = 32) (hh : B8) (fr up lim : Int) : rest3 (newT b ++ suf) hh fr up lim = some (suf, hh, fr, up, lim, b) := by
  unfold rest3 newT
  cases b with
  | true =>
    have : wordP [110, 101, 119, 101, 115, 116] (32 :: ([110, 101, 119, 101, 115, 116] ++ suf)) = some suf := wordP_this (by decide)
    rw [if_pos rfl, List.cons_append, this]
    rfl
  | false =>
    have : wordP [110, 101, 119, 101, 115, 116] suf = none := wordP_hd (l := []) (fun c x e => by rw [(blanks_bl h).2] at e; cases e) (by simp)
    rw [if_neg (by simp), List.nil_append, this]
    rfl
theorem new_hd {b : Bool} {suf : B8} (h : ∀ c ∈ suf, c = 32) : Hd [110] (newT b ++ suf) ∧ Bl (newT b ++ suf) := by
  unfold newT
  cases b with
  | true =>
    refine ⟨fun c x e => ?_, .inr ⟨_, rfl⟩⟩
    rw [if_pos rfl, List.cons_append, trimL_blank, List.cons_append, trimL_head (by decide)] at e
    injection e with e _
    subst e
    simp
  | false =>
    refine ⟨fun c x e => ?_, ?_⟩
    · rw [if_neg (by simp), List.nil_append, (blanks_bl h).2] at e
      cases e
    · exact (blanks_bl h).1
/-- All that stands behind the braces. -/
def tailT (q : Qy) : B8 := hasT q.has ++ (numT [102, 114, 111, 109] 0 q.fr ++ (numT [116, 111] 1099511627776 q.upto ++ (numT [108, 105, 109, 105, 116] 0 q.lim ++ newT q.newest)))
theorem tail_back {q : Qy} (hq : rightQ q = true) {suf : B8} (h : ∀ c ∈ suf, c = 32) : wordsS (tailT q ++ suf) [] = some (suf, q.has, q.fr, q.upto, q.lim, q.newest) := by
  simp only [rightQ, timesQ, textS, Bool.and_eq_true, decide_eq_true_eq] at hq
  obtain ⟨⟨⟨⟨_, _, hv⟩, _⟩, ht⟩, hl⟩ := hq
  obtain ⟨n1, n2⟩ := new_hd (b := q.newest) h
  have l1 := num_hd (d := 0) (v := q.lim) (n := [105, 109, 105, 116]) (c := 108) (by decide) n1
  have l2 : Bl (numT [108, 105, 109, 105, 116] 0 q.lim ++ (newT q.newest ++ suf)) := (num_bl _ _ _).app n2
  have t1 := num_hd (d := 1099511627776) (v := q.upto) (n := [111]) (c := 116) (by decide) l1
  have t2 : Bl (numT [116, 111] 1099511627776 q.upto ++ (numT [108, 105, 109, 105, 116] 0 q.lim ++ (newT q.newest ++ suf))) := (num_bl _ _ _).app l2
  have f1 := num_hd (d := 0) (v := q.fr) (n := [114, 111, 109]) (c := 102) (by decide) t1
  have e : tailT q ++ suf = hasT q.has ++ (numT [102, 114, 111, 109] 0 q.fr ++ (numT [116, 111] 1099511627776 q.upto ++ (numT [108, 105, 109, 105, 116] 0 q.lim ++ (newT q.newest ++ suf)))) := by
    simp only [tailT, List.append_assoc]
  rw [e]
  unfold wordsS
  rw [has_back (by decide) f1 hv]
  simp only
  unfold rest0
  rw [num_back (by decide) (by decide) t1 t2 (by omega) (by omega)]
  simp only
  unfold rest1
  rw [num_back (by decide) (by decide) l1 l2 (by omega) (by omega)]
  simp only
  unfold rest2
  rw [num_back (by decide) (by decide) n1 n2 (by omega) (by omega)]
  simp only
  exact new_back h _ _ _ _
/-- A query as a text. -/
def printT (q : Qy) : B8 := 123 :: (Lib.join (q.ms.map mtS) [44, 32] ++ 125 :: tailT q)
def printQ (q : Qy) : B8 := if rightQ q = true then printT q else []
/-- A query is read as it was printed, with blanks around it or none. -/
theorem parse_back {q : Qy} (hq : rightQ q = true) {pre suf : B8} (hp : ∀ c ∈ pre, c = 32) (hs : ∀ c ∈ suf, c = 32) : parseQ (pre ++ (printT q ++ suf)) = some q := by
  have hq' := hq
  simp only [rightQ, Bool.and_eq_true, decide_eq_true_eq] at hq'
  have hms : ∀ x ∈ q.ms, okM x = true := List.all_eq_true.1 hq'.1.1.2
  have e : trimL (pre ++ (printT q ++ suf)) = 123 :: (Lib.join (q.ms.map mtS) [44, 32] ++ 125 :: (tailT q ++ suf)) := by
    rw [trimL_blanks pre _ hp]
    have : printT q ++ suf = 123 :: (Lib.join (q.ms.map mtS) [44, 32] ++ 125 :: (tailT q ++ suf)) := by simp [printT]
    rw [this]
    exact trimL_head (by decide) _
  unfold parseQ
  rw [head_back hms hq'.1.1.1.1 e]
  simp only
  rw [tail_back hq hs]
  simp only
  rw [if_pos ⟨(blanks_bl hs).2, hq⟩]
/-- The words of a query's text, one by one. -/
def wordsT (q : Qy) : List B8 := [123 :: (Lib.join (q.ms.map mtS) [44, 32] ++ [125])] ++ (if q.has = [] then [] else [[104, 97, 115], quoteS q.has]) ++ (if q.fr = 0 then [] else [[102, 114, 111, 109], Lib.itoa q.fr]) ++ (if q.upto = 1099511627776 then [] else [[116, 111], Lib.itoa q.upto]) ++ (if q.lim = 0 then [] else [[108, 105, 109, 105, 116], Lib.itoa q.lim]) ++ (if q.newest = true then [[110, 101, 119, 101, 115, 116]] else [])
theorem joinTail_app (sep : B8) (a b : List B8) : Lib.joinTail sep (a ++ b) = Lib.joinTail sep a ++ Lib.joinTail sep b := by simp [Lib.joinTail]
theorem join_words (q : Qy) : Lib.join (wordsT q) [32] = printT q := by
  unfold wordsT printT tailT hasT numT newT
  simp only [List.append_assoc, List.cons_append, List.nil_append]
  rw [Lib.join_cons]
  simp only [joinTail_app]
  rw [List.cons_append, List.append_assoc]
  congr 2
  rw [List.cons_append, List.nil_append]
  congr 1
  congr 1
  · split <;> simp [Lib.joinTail]
  · congr 1
    · split <;> simp [Lib.joinTail]
    · congr 1
      · split <;> simp [Lib.joinTail]
      · congr 1
        · split <;> simp [Lib.joinTail]
        · split <;> simp [Lib.joinTail]
end Go.Proofs.YtlhodanpfpfodaaGreatDoor
