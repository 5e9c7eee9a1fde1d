/-
  A pattern between stars fits what has a text that it fits in it: mathematics alone. Conditions: those that each theorem names.
  The walk of MatcherStars. Conditions: sizes; the program's tables are in place.
-/
import Derived.Test.YtlhodanpfpfodaaGreatDoorGlobP
import Derived.Lib.MapLaws
import Derived.Lib.RuneBytes
import Derived.Test.YtlhodanpfpfodaaGreatDoorMKno
namespace Go.Proofs.YtlhodanpfpfodaaGreatDoor
open Go.RowKit Go.Icz
theorem enc_high {r : Int} (h : 2 ≤ (Lib.encodeRune r).length) : ∀ c ∈ Lib.encodeRune r, 128 ≤ c.toNat := by
  intro c hc
  unfold Lib.encodeRune at h hc
  rw [List.length_map] at h
  obtain ⟨x, hx, rfl⟩ := List.mem_map.1 hc
  have hb := Lib.encodeRuneZ_byte r x hx
  have hx8 : 128 ≤ x := by
    unfold Lib.encodeRuneZ at h hx
    split at hx
    · rename_i h1
      rw [if_pos h1] at h
      simp at h
    · split at hx
      · simp only [List.mem_cons, List.not_mem_nil, or_false] at hx
        omega
      · split at hx
        · simp only [List.mem_cons, List.not_mem_nil, or_false] at hx
          omega
        · split at hx
          · simp only [List.mem_cons, List.not_mem_nil, or_false] at hx
            omega
          · simp only [List.mem_cons, List.not_mem_nil, or_false] at hx
            omega
  show 128 ≤ (UInt8.ofNat x.toNat).toNat
  rw [UInt8.toNat_ofNat_of_lt' (by show x.toNat < 256; omega)]
  omega
/-- A byte below 128 begins a rune of its own, whatever stands ahead of it. -/
theorem width_stops {a t : B8} {x : UInt8} (hne : a ≠ []) (hx : x.toNat < 128) : (Lib.decodeL (a ++ x :: t)).2 ≤ a.length := by
  have ha : 0 < a.length := List.length_pos_iff.2 hne
  have hne2 : a ++ x :: t ≠ [] := by simp
  rcases Nat.lt_or_ge 1 (Lib.decodeL (a ++ x :: t)).2 with h1 | h1
  · rcases Nat.lt_or_ge a.length (Lib.decodeL (a ++ x :: t)).2 with h2 | h2
    · exfalso
      have he := Lib.encode_decode (a ++ x :: t) hne2 (fun h => by omega)
      have hle := Lib.decodeL_le _ hne2
      have hm : x ∈ (a ++ x :: t).take (Lib.decodeL (a ++ x :: t)).2 := by
        have e : (a ++ x :: t)[a.length]? = some x := by simp
        exact List.mem_of_getElem? (i := a.length) (by rw [List.getElem?_take, if_pos h2]; exact e)
      rw [← he] at hm
      have := enc_high (by rw [he, List.length_take]; omega) x hm
      omega
    · exact h2
  · omega
theorem runes_one {x : UInt8} (hx : x.toNat < 128) (t : B8) : runesS (x :: t) = x.toNat :: runesS t := by
  rw [runesS_step (x :: t) (by simp), Lib.decodeL_ascii x t hx]
  rfl
theorem runes_ascii : ∀ (b t : B8), (∀ x ∈ b, x.toNat < 128) → runesS (b ++ t) = b.map (·.toNat) ++ runesS t
  | [], t, _ => rfl
  | x :: b, t, h => by
    rw [List.cons_append, runes_one (h x (by simp)), runes_ascii b t (fun y hy => h y (by simp [hy]))]
    rfl
theorem runes_mid (n : Nat) : ∀ (a t : B8) (x : UInt8), a.length ≤ n → x.toNat < 128 → ∃ p, runesS (a ++ x :: t) = p ++ runesS (x :: t) := by
  induction n with
  | zero =>
    intro a t x h _
    have := List.eq_nil_of_length_eq_zero (Nat.le_zero.1 h)
    subst this
    exact ⟨[], rfl⟩
  | succ n ih =>
    intro a t x h hx
    by_cases hne : a = []
    · subst hne
      exact ⟨[], rfl⟩
    · have hw := width_stops (t := t) hne hx
      have hp := Lib.decodeL_width (a ++ x :: t)
      rw [runesS_step _ (by simp), List.drop_append_of_le_length hw]
      obtain ⟨p, e⟩ := ih (a.drop (Lib.decodeL (a ++ x :: t)).2) t x (by rw [List.length_drop]; omega) hx
      rw [e]
      exact ⟨_ :: p, rfl⟩
theorem runes_has (a b c : B8) (h : ∀ x ∈ b, x.toNat < 128) : ∃ p q, runesS (a ++ b ++ c) = p ++ (b.map (·.toNat) ++ q) := by
  cases b with
  | nil => exact ⟨runesS (a ++ [] ++ c), [], by simp⟩
  | cons x b =>
    obtain ⟨p, e⟩ := runes_mid a.length a (b ++ c) x (Nat.le_refl _) (h x (by simp))
    have e2 : a ++ (x :: b) ++ c = a ++ x :: (b ++ c) := by simp
    rw [e2, e]
    exact ⟨p, runesS c, by rw [← List.cons_append, runes_ascii (x :: b) c h]⟩
/-- Each byte with the sign ahead of it that takes it as it is. -/
def escB : B8 → B8
  | [] => []
  | x :: t => 92 :: x :: escB t
theorem escB_app : ∀ a b : B8, escB (a ++ b) = escB a ++ escB b
  | [], _ => rfl
  | x :: a, b => by simp [escB, escB_app a b]
theorem escB_len : ∀ a : B8, (escB a).length = 2 * a.length
  | [] => rfl
  | x :: a => by simp [escB, escB_len a]; omega
theorem escB_low : ∀ b : B8, (∀ x ∈ b, x.toNat < 128) → ∀ x ∈ escB b, x.toNat < 128
  | [], _, x, hx => by simp [escB] at hx
  | y :: b, h, x, hx => by
    simp only [escB, List.mem_cons] at hx
    rcases hx with rfl | rfl | hx
    · decide
    · exact h x (by simp)
    · exact escB_low b (fun z hz => h z (by simp [hz])) x hx
theorem toks_escB : ∀ (b : B8) (t : List Nat), Gl.toks ((escB b).map (·.toNat) ++ t) = (b.map fun x => Gl.Tok.sg (.lit x.toNat)) ++ Gl.toks t
  | [], _ => rfl
  | x :: b, t => by
    show Gl.toks (92 :: x.toNat :: ((escB b).map (·.toNat) ++ t)) = _
    rw [Gl.toks_esc, toks_escB b t]
    rfl
theorem split_sgs : ∀ (l : List Gl.Sg) (r : List Gl.Tok) (acc : List Gl.Sg), Gl.split (l.map .sg ++ r) acc = Gl.split r (acc ++ l)
  | [], r, acc => by simp
  | g :: l, r, acc => by
    rw [List.map_cons, List.cons_append]
    show Gl.split (l.map .sg ++ r) (acc ++ [g]) = _
    rw [split_sgs l r (acc ++ [g])]
    simp
theorem fit_lits : ∀ (b q : List Nat), Gl.fit ((b.map Gl.Sg.lit) ++ [.any]) (b ++ q) = true
  | [], q => Gl.fit_one_any q
  | x :: b, q => (Gl.fit_sign (by simp) _ _).2 ⟨x, b ++ q, rfl, by simp [Gl.Sg.hits], fit_lits b q⟩
theorem fit_stars (b p q : List Nat) : Gl.fit (.any :: ((b.map Gl.Sg.lit) ++ [.any])) (p ++ (b ++ q)) = true :=
  (Gl.fit_any _ _).2 ⟨p.length, by simp, by rw [List.drop_left]; exact fit_lits b q⟩
theorem any_of {l : List (List Gl.Sg)} {s : List Nat} {g : List Gl.Sg} (h : g ∈ l) (hf : Gl.fit g s = true) : (l.any fun q => Gl.fit q s) = true := List.any_eq_true.2 ⟨g, h, hf⟩
theorem split_mem_bar (l : List Gl.Sg) (r : List Gl.Tok) : l ∈ Gl.split (l.map .sg ++ .bar :: r) [] := by
  rw [split_sgs]
  show _ ∈ ([] ++ l) :: Gl.split r []
  simp
theorem star_all (s : B8) : globS [42] s = true := by
  have e : runesS [42] = [42] := by decide +kernel
  unfold globS Gl.globR
  rw [e]
  have : Gl.split (Gl.toks [42]) [] = [[.any]] := by simp [Gl.toks, Gl.split, Gl.signOf]
  rw [this]
  simp [Gl.fit_one_any]
theorem star_ahead (a b c : B8) (h : ∀ x ∈ b, x.toNat < 128) : globS ([42] ++ escB b ++ [42, 124, 122, 122]) (a ++ b ++ c) = true := by
  obtain ⟨p, q, e⟩ := runes_has a b c h
  have e2 : runesS ([42] ++ escB b ++ [42, 124, 122, 122]) = 42 :: ((escB b).map (·.toNat) ++ [42, 124, 122, 122]) := by
    have := runes_ascii ([42] ++ escB b ++ [42, 124, 122, 122]) [] (fun x hx => by
      rcases List.mem_append.1 hx with hx | hx
      · rcases List.mem_append.1 hx with hx | hx
        · rw [List.mem_singleton] at hx; subst hx; decide
        · exact escB_low b h x hx
      · exact (by decide : ∀ y ∈ ([42, 124, 122, 122] : B8), y.toNat < 128) x hx)
    rw [List.append_nil] at this
    rw [this]
    show _ ++ [] = _
    rw [List.append_nil, List.map_append, List.map_append]
    rfl
  unfold globS Gl.globR
  rw [e, e2, Gl.toks_sign (by decide) (by decide), toks_escB]
  have e3 : Gl.toks [42, 124, 122, 122] = [.sg .any, .bar, .sg (.lit 122), .sg (.lit 122)] := by simp [Gl.toks, Gl.signOf]
  rw [e3]
  have e4 : Gl.Tok.sg (Gl.signOf 42) :: ((b.map fun x => Gl.Tok.sg (.lit x.toNat)) ++ [.sg .any, .bar, .sg (.lit 122), .sg (.lit 122)]) = ((.any :: (((b.map (·.toNat)).map Gl.Sg.lit) ++ [.any])).map .sg) ++ (.bar :: [.sg (.lit 122), .sg (.lit 122)]) := by
    simp [Gl.signOf]
  rw [e4]
  exact any_of (split_mem_bar _ _) (fit_stars _ _ _)
theorem star_behind (a b c : B8) (h : ∀ x ∈ b, x.toNat < 128) : globS ([122, 122, 124, 42] ++ escB b ++ [42]) (a ++ b ++ c) = true := by
  obtain ⟨p, q, e⟩ := runes_has a b c h
  have e2 : runesS ([122, 122, 124, 42] ++ escB b ++ [42]) = 122 :: 122 :: 124 :: 42 :: ((escB b).map (·.toNat) ++ [42]) := by
    have := runes_ascii ([122, 122, 124, 42] ++ escB b ++ [42]) [] (fun x hx => by
      rcases List.mem_append.1 hx with hx | hx
      · rcases List.mem_append.1 hx with hx | hx
        · exact (by decide : ∀ y ∈ ([122, 122, 124, 42] : B8), y.toNat < 128) x hx
        · exact escB_low b h x hx
      · rw [List.mem_singleton] at hx; subst hx; decide)
    rw [List.append_nil] at this
    rw [this]
    show _ ++ [] = _
    rw [List.append_nil, List.map_append, List.map_append]
    rfl
  unfold globS Gl.globR
  rw [e, e2, Gl.toks_sign (by decide) (by decide), Gl.toks_sign (by decide) (by decide), Gl.toks_bar, Gl.toks_sign (by decide) (by decide), toks_escB]
  have e3 : Gl.toks [42] = [.sg .any] := by simp [Gl.toks, Gl.signOf]
  rw [e3]
  have e4 : Gl.Tok.sg (Gl.signOf 42) :: ((b.map fun x => Gl.Tok.sg (.lit x.toNat)) ++ [.sg .any]) = ((.any :: (((b.map (·.toNat)).map Gl.Sg.lit) ++ [.any])).map .sg) ++ [] := by
    simp [Gl.signOf]
  rw [e4]
  show ((Gl.split (.bar :: _) _).any _) = true
  refine any_of (g := .any :: (((b.map (·.toNat)).map Gl.Sg.lit) ++ [.any])) ?_ (fit_stars _ _ _)
  show _ ∈ _ :: Gl.split _ []
  rw [split_sgs]
  simp [Gl.split]
end Go.Proofs.YtlhodanpfpfodaaGreatDoor
namespace Go.Proofs.YtlhodanpfpfodaaGreatDoor
open Go.RowKit Go.Icz
set_option maxHeartbeats 8000000 in
set_option maxRecDepth 100000 in
theorem MatcherStars_walk (a b c : ByteArray) (part : Int) (w : World) (ha : a.size ≤ 1048576) (hb : b.size ≤ 1048576) (hc : c.size ≤ 1048576) (hT : TabsM w) (h9 : 9 ≤ w.heap.size) :
    Calls Tryz.prog 8 #[.string a, .string b, .string c, .int .i64 part] w fun e w' => e = .returned (.bool true) ∧ Below w.heap.size w w' := by
  have e3 : (a ++ b ++ c).size = a.size + b.size + c.size := by simp [ByteArray.size_append]
  have hL := fun w1 => Long_is (a ++ b ++ c) (a ++ b ++ c) w1 (by omega) (by omega)
  have hK := fun w1 (hb : Below w.heap.size w w1) => knows6_is w1 (hT.below hb) (Nat.le_trans h9 hb.size)
  cases hlong : longB (a ++ b ++ c).size (a ++ b ++ c).size with
  | true =>
    rw [hlong] at hL
    clear e3 hlong
    go_enter Tryz.func8, Tryz.ntmps8
    go_wp2_with (first
      | (go_at_call 18; refine (hL _).mono ?_; rintro e w1 ⟨rfl, b1⟩; clear hL)
      | (go_at_call 19; refine (hK _ b1).mono ?_; rintro e w2 ⟨rfl, b2⟩))
    go_ret
    exact ⟨rfl, b1.trans (b2.mono b1.size)⟩
  | false =>
    have hsm : (a ++ b ++ c).size ≤ 2000 := by
      unfold longB at hlong
      simp only [Bool.or_eq_false_iff, decide_eq_false_iff_not] at hlong
      omega
    rw [hlong] at hL
    clear hlong
    have hbz : b.size ≤ 2000 := by omega
    have hG1 := fun w1 => Glob_is ⟨#[42]⟩ (a ++ b ++ c) w1 (by decide) (by omega)
    have es : (⟨#[42]⟩ : ByteArray).data.toList = [42] := rfl
    rw [es, star_all] at hG1
    clear es
    go_enter Tryz.func8, Tryz.ntmps8
    go_wp2_with (go_at_call 18; refine (hL _).mono ?_; rintro e w1 ⟨rfl, b1⟩; clear hL)
    go_loopw [10, 11] (fun qv iv wr => ∃ i : Nat, iv = .int .i64 i ∧ i ≤ b.size ∧ qv = .string ⟨(escB (b.data.toList.take i)).toArray⟩ ∧ Below w.heap.size w wr ∧ Hid (∀ x ∈ b.data.toList.take i, x.toNat < 128)) (fun _ iv _ => b.size - (intOf iv).toNat)
    case atStart => exact ⟨0, rfl, by omega, rfl, b1, hid (by simp)⟩
    case round =>
      obtain ⟨i, rfl, hi, rfl, hbw, HA⟩ := hrel
      by_cases hlt : i < b.size
      · by_cases h128 : 128 ≤ (b[i]).toNat
        · clear HA
          go_wp2_with (first
            | (go_at_call 20; refine (hG1 _).mono ?_; rintro e w2 ⟨rfl, b2⟩; clear hG1; have bt2 := hbw.trans (b2.mono hbw.size))
            | (go_at_call 19; refine (hK _ bt2).mono ?_; rintro e w3 ⟨rfl, b3⟩))
          go_ret
          exact ⟨rfl, bt2.trans (b3.mono bt2.size)⟩
        · have h128' : (b[i]).toNat < 128 := by omega
          have hin : i < b.data.toList.length := by rw [size_len]; exact hlt
          have HT : Hid (escB (b.data.toList.take (i + 1)) = escB (b.data.toList.take i) ++ [92, b[i]'hlt]) := hid (by
            rw [List.take_add_one, List.getElem?_eq_getElem hin, escB_app]
            rfl)
          have HA2 : Hid (∀ x ∈ b.data.toList.take (i + 1), x.toNat < 128) := hid (by
            rw [List.take_add_one, List.getElem?_eq_getElem hin]
            intro x hx
            rcases List.mem_append.1 hx with h1 | h1
            · exact HA.out x h1
            · simp only [Option.toList_some, List.mem_singleton] at h1
              rw [h1]
              exact h128')
          have hel : (escB (b.data.toList.take i)).length ≤ 4000 := by rw [escB_len, List.length_take]; omega
          clear HA hin
          have hcv : (convert 59 9 (.slice (some ⟨wr.heap.size, 0, none⟩) 2 2)).run Tryz.prog (wr.alloc (.cells #[.int .u8 92, .int .u8 ((b[i]'hlt).toNat : Int)] 5)) = .ok (.string ⟨([92, b[i]'hlt] : B8).toArray⟩) (wr.alloc (.cells #[.int .u8 92, .int .u8 ((b[i]'hlt).toNat : Int)] 5)) := by
            have := conv_rd std (Rd.two wr 92 (b[i]'hlt).toNat)
            rw [show str [92, (b[i]'hlt).toNat] = ⟨([92, b[i]'hlt] : B8).toArray⟩ by simp [str]] at this
            exact this
          generalize escB (b.data.toList.take i) = qs at *
          go_wp2_with fail
          go_roundw
          case rel => exact ⟨i + 1, by go_num, by omega, by rw [HT.out]; first | rfl | simp, hbw.alloc hbw.size _, HA2⟩
          case measure => simp [intOf]; omega
      · have ei : i = b.size := by omega
        have eb : b.data.toList.take i = b.data.toList := List.take_of_length_le (by rw [size_len]; omega)
        rw [eb] at HA
        have hel : (escB b.data.toList).length ≤ 4000 := by rw [escB_len, size_len]; omega
        have es : (a ++ b ++ c).data.toList = a.data.toList ++ b.data.toList ++ c.data.toList := by simp
        rw [eb]
        by_cases hcond : part < 0 ∧ 0 < a.size ∧ 0 < c.size
        · obtain ⟨p1, p2, p3⟩ := hcond
          have hG2 := fun w1 => Glob_is ⟨([122, 122, 124, 42] ++ escB b.data.toList ++ [42] : B8).toArray⟩ (a ++ b ++ c) w1 (by rw [Lib.size_mk]; simp; omega) (by omega)
          have e5 : (⟨([122, 122, 124, 42] ++ escB b.data.toList ++ [42] : B8).toArray⟩ : ByteArray).data.toList = [122, 122, 124, 42] ++ escB b.data.toList ++ [42] := rfl
          rw [e5, es, star_behind _ _ _ HA.out] at hG2
          clear e5 es HA eb
          generalize escB b.data.toList = qs at *
          go_wp2_with (first
            | (go_at_call 20; refine (hG1 _).mono ?_; rintro e w2 ⟨rfl, b2⟩; clear hG1; have bt2 := hbw.trans (b2.mono hbw.size))
            | (go_at_call 20; refine (hG2 _).mono ?_; rintro e w4 ⟨rfl, b4⟩; clear hG2; have bt4 := bt2.trans (b4.mono bt2.size))
            | (go_at_call 19; refine (hK _ bt4).mono ?_; rintro e w3 ⟨rfl, b3⟩))
          go_ret
          exact ⟨rfl, bt4.trans (b3.mono bt4.size)⟩
        · have hG2 := fun w1 => Glob_is ⟨([42] ++ escB b.data.toList ++ [42, 124, 122, 122] : B8).toArray⟩ (a ++ b ++ c) w1 (by rw [Lib.size_mk]; simp; omega) (by omega)
          have e5 : (⟨([42] ++ escB b.data.toList ++ [42, 124, 122, 122] : B8).toArray⟩ : ByteArray).data.toList = [42] ++ escB b.data.toList ++ [42, 124, 122, 122] := rfl
          rw [e5, es, star_ahead _ _ _ HA.out] at hG2
          clear e5 es HA eb
          generalize escB b.data.toList = qs at *
          have hcs : 0 ≤ part ∨ (part < 0 ∧ a.size = 0) ∨ (part < 0 ∧ 0 < a.size ∧ c.size = 0) := by omega
          clear hcond
          rcases hcs with p1 | ⟨p1, p2⟩ | ⟨p1, p2, p3⟩
          all_goals
            go_wp2_with (first
              | (go_at_call 20; refine (hG1 _).mono ?_; rintro e w2 ⟨rfl, b2⟩; clear hG1; have bt2 := hbw.trans (b2.mono hbw.size))
              | (go_at_call 20; refine (hG2 _).mono ?_; rintro e w4 ⟨rfl, b4⟩; clear hG2; have bt4 := bt2.trans (b4.mono bt2.size))
              | (go_at_call 19; refine (hK _ bt4).mono ?_; rintro e w3 ⟨rfl, b3⟩))
            go_ret
            exact ⟨rfl, bt4.trans (b3.mono bt4.size)⟩
end Go.Proofs.YtlhodanpfpfodaaGreatDoor
