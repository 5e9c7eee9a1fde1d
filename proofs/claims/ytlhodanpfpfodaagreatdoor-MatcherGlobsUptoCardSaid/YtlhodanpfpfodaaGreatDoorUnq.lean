/-
  Quoted texts read: what stands quoted at a text's beginning, as a Lean function of its bytes. Conditions: those that each theorem names.
-/
import Derived.Test.YtlhodanpfpfodaaGreatDoorQuote
import Derived.ScopeJumps
import Derived.WalkMore
import Derived.OwnWalk
namespace Go.Proofs.YtlhodanpfpfodaaGreatDoor
open Go.RowKit Go.Icz

/-- A digit to the base 16, read; 16: none. -/
def hv (b : Nat) : Nat := if 48 ≤ b ∧ b ≤ 57 then b - 48 else if 97 ≤ b ∧ b ≤ 102 then b - 87 else if 65 ≤ b ∧ b ≤ 70 then b - 55 else 16
/-- A number to the base 16 of at most eight bits. -/
def pu : Nat → B8 → Option Nat
  | n, [] => some n
  | n, b :: t => if hv b.toNat < 16 ∧ n * 16 + hv b.toNat ≤ 255 then pu (n * 16 + hv b.toNat) t else none
def parse16 (l : B8) : Option Nat := if l = [] then none else pu 0 l
theorem pu_le : ∀ (n : Nat) (l : B8) (m : Nat), n ≤ 255 → pu n l = some m → m ≤ 255
  | n, [], m, hn, h => by simp [pu] at h; omega
  | n, b :: t, m, hn, h => by
    simp only [pu] at h
    split at h
    · rename_i hc
      exact pu_le _ t m hc.2 h
    · cases h
/-- The rune that an escape at the beginning stands for. -/
def meantS (l : B8) : Nat :=
  if Lib.hasPrefix l [92, 117, 123] then (parse16 ((l.drop 3).takeWhile (· != 125))).getD 65533
  else if Lib.hasPrefix l [92, 110] then 10 else if Lib.hasPrefix l [92, 34] then 34 else if Lib.hasPrefix l [92, 92] then 92 else 65533
theorem meantS_le (l : B8) : meantS l ≤ 1114111 := by
  unfold meantS
  split
  · unfold parse16
    split
    · simp
    · cases h : pu 0 (List.takeWhile (fun x => x != 125) (List.drop 3 l)) with
      | none => simp
      | some m => have := pu_le 0 _ m (by omega) h; simp; omega
  · split
    · omega
    · split
      · omega
      · split <;> omega
/-- The rune that stands at the beginning, an escape's meaning for an escape. -/
def nx (rest : B8) : Nat := if (Lib.decodeL rest).1 = 92 then meantS rest else (Lib.decodeL rest).1
theorem nx_le (rest : B8) : nx rest ≤ 1114111 := by
  unfold nx
  split
  · exact meantS_le _
  · exact Lib.decodeL_rune _
def unqF : Nat → B8 → B8 → Nat → Option (B8 × Nat)
  | 0, _, _, _ => none
  | f + 1, rest, acc, n => if rest = [] then none else if (Lib.decodeL rest).1 = 34 then some (acc, n + 1) else
    if Lib.hasPrefix rest (qr (nx rest)) then unqF f (rest.drop (qr (nx rest)).length) (acc ++ Lib.encodeRune (nx rest : Int)) (n + (qr (nx rest)).length) else none
def unquoteS (l : B8) : Option (B8 × Nat) := if Lib.hasPrefix l [34] then unqF l.length (l.drop 1) [] 1 else none

theorem unqF_nil (f : Nat) (acc : B8) (n : Nat) : unqF f [] acc n = none := by
  cases f with
  | zero => rfl
  | succ f => simp [unqF]

theorem hasPrefix_iff (l p : B8) : Lib.hasPrefix l p = true ↔ ∃ t, l = p ++ t := by
  unfold Lib.hasPrefix
  rw [List.isPrefixOf_iff_prefix]
  exact ⟨fun ⟨t, h⟩ => ⟨t, h.symm⟩, fun ⟨t, h⟩ => ⟨t, h.symm⟩⟩

theorem encodeRune_lo {r : Nat} (h : r < 128) : Lib.encodeRune (r : Int) = [UInt8.ofNat r] := by
  unfold Lib.encodeRune
  rw [Lib.encodeRuneZ_one (by omega) (by omega)]
  rfl
theorem encodeRune_hi {r : Nat} (h : 128 ≤ r) (h2 : r ≤ 1114111) : ∃ b t, Lib.encodeRune (r : Int) = b :: t ∧ 128 ≤ b.toNat := by
  unfold Lib.encodeRune
  by_cases h3 : r ≤ 2047
  · rw [Lib.encodeRuneZ_two (by omega) (by omega)]
    exact ⟨_, _, rfl, by show 128 ≤ ((192 + (r : Int) / 64).toNat.toUInt8).toNat; rw [ofNat_toNat_int (x := 192 + r / 64) (by omega)]; simp; omega⟩
  · by_cases h4 : (r < 55296) ∨ (57343 < r ∧ r ≤ 65535)
    · rw [Lib.encodeRuneZ_three (by omega)]
      exact ⟨_, _, rfl, by show 128 ≤ ((224 + (r : Int) / 4096).toNat.toUInt8).toNat; rw [ofNat_toNat_int (x := 224 + r / 4096) (by omega)]; simp; omega⟩
    · by_cases h5 : 65536 ≤ r
      · rw [Lib.encodeRuneZ_four (by omega) (by omega)]
        exact ⟨_, _, rfl, by show 128 ≤ ((240 + (r : Int) / 262144).toNat.toUInt8).toNat; rw [ofNat_toNat_int (x := 240 + r / 262144) (by omega)]; simp; omega⟩
      · rw [Lib.encodeRuneZ_bad (by omega)]
        exact ⟨_, _, rfl, by decide⟩

/-- Which forms there are. -/
theorem qr_form (r : Nat) (h : r ≤ 1114111) : (∃ t, qr r = 92 :: t ∧ r < 128 ∧ ∀ b ∈ qr r, b.toNat < 128) ∨ (qr r = Lib.encodeRune (r : Int) ∧ r ≠ 34 ∧ r ≠ 92) := by
  unfold qr
  by_cases h1 : r = 34 ∨ r = 92
  · rw [if_pos h1]
    refine .inl ⟨_, rfl, by omega, ?_⟩
    rcases h1 with rfl | rfl <;> decide
  · rw [if_neg h1]
    by_cases h2 : r = 10
    · rw [if_pos h2]
      exact .inl ⟨_, rfl, by omega, by decide⟩
    · rw [if_neg h2]
      by_cases h3 : r < 32 ∨ r = 127
      · rw [if_pos h3]
        refine .inl ⟨_, rfl, by omega, ?_⟩
        have : ∀ x : Fin 128, ∀ b ∈ ([92, 117, 123] ++ (hexN x.val).map UInt8.ofNat ++ [125] : B8), b.toNat < 128 := by
          intro x b hb
          simp only [List.mem_append, List.mem_cons, List.mem_map, List.not_mem_nil, or_false] at hb
          rcases hb with (h | ⟨a, ha, rfl⟩) | h
          · rcases h with rfl | rfl | rfl <;> decide
          · have hx := x.isLt
            have hd1 : ∀ k, k < 16 → hd k < 128 := fun k hk => by unfold hd; split <;> omega
            have ha' : a < 128 := by
              by_cases h16 : x.val < 16
              · rw [hexN_lo h16] at ha
                simp at ha
                subst ha
                exact hd1 _ h16
              · rw [hexN_hi h16, hexN_lo (by omega)] at ha
                simp at ha
                rcases ha with rfl | rfl
                · exact hd1 _ (by omega)
                · exact hd1 _ (by omega)
            simp
            omega
          · subst h; decide
        exact this ⟨r, by omega⟩
      · rw [if_neg h3]
        exact .inr ⟨rfl, by omega, by omega⟩
theorem encodeRune_le_qr (r : Nat) (h : r ≤ 1114111) : (Lib.encodeRune (r : Int)).length ≤ (qr r).length := by
  rcases qr_form r h with ⟨t, e, h1, _⟩ | ⟨e, _⟩
  · rw [encodeRune_lo h1, e]; simp
  · rw [e]; omega
theorem qr_pos (r : Nat) (h : r ≤ 1114111) : 1 ≤ (qr r).length := by
  have h1 := encodeRune_le_qr r h
  have h2 := (Lib.encodeRuneZ_length (r : Int)).1
  have h3 : (Lib.encodeRune (r : Int)).length = (Lib.encodeRuneZ (r : Int)).length := by simp [Lib.encodeRune]
  omega
/-- An escape's form is of ASCII. -/
theorem qr_ascii (r : Nat) (h : r ≤ 1114111) (t : B8) (hp : Lib.hasPrefix (92 :: t) (qr r) = true) : ∀ b ∈ qr r, b.toNat < 128 := by
  rcases qr_form r h with ⟨_, _, _, h1⟩ | ⟨e, _⟩
  · exact h1
  · by_cases h2 : r < 128
    · rw [e, encodeRune_lo h2]
      intro b hb
      simp at hb
      subst hb
      simp
      omega
    · obtain ⟨b, u, e2, hb⟩ := encodeRune_hi (by omega) h
      obtain ⟨v, hv⟩ := (hasPrefix_iff _ _).1 hp
      rw [e, e2] at hv
      simp at hv
      have := hv.1
      subst this
      exact absurd hb (by decide)
theorem decode_fffd (t : B8) : Lib.decodeL (239 :: 191 :: 189 :: t) = (65533, 3) := by
  rw [Lib.decodeL_N]
  simp [Lib.decodeN]
/-- A rune that is written as itself takes as many bytes as were read. -/
theorem qr_width (l : B8) (hne : l ≠ []) (hr : (Lib.decodeL l).1 ≠ 92) (hp : Lib.hasPrefix l (qr (Lib.decodeL l).1) = true) : (qr (Lib.decodeL l).1).length = (Lib.decodeL l).2 := by
  have hr2 := Lib.decodeL_rune l
  obtain ⟨b, t, rfl⟩ := List.exists_cons_of_ne_nil hne
  rcases qr_form _ hr2 with ⟨u, e, h1, _⟩ | ⟨e, _⟩
  · exfalso
    obtain ⟨v, hv⟩ := (hasPrefix_iff _ _).1 hp
    rw [e] at hv
    simp at hv
    have := hv.1
    subst this
    rw [Lib.decodeL_ascii 92 t (by decide)] at hr
    exact hr rfl
  · by_cases hbad : (Lib.decodeL (b :: t)).1 = 65533 ∧ (Lib.decodeL (b :: t)).2 = 1
    · exfalso
      obtain ⟨v, hv⟩ := (hasPrefix_iff _ _).1 hp
      rw [e, hbad.1] at hv
      have e3 : Lib.encodeRune ((65533 : Nat) : Int) = [239, 191, 189] := by decide +kernel
      rw [e3] at hv
      have h3 := decode_fffd v
      rw [hv] at hbad
      have : (239 :: 191 :: 189 :: v : B8) = [239, 191, 189] ++ v := rfl
      rw [← this, h3] at hbad
      exact absurd hbad.2 (by decide)
    · rw [e, Lib.encode_decode _ hne hbad, List.length_take]
      have := Lib.decodeL_le _ hne
      omega

theorem extract_drop (s : ByteArray) (n : Nat) : (s.extract n s.size).data.toList = s.data.toList.drop n := by rw [Lib.extract_from]
theorem ascii_step {s : ByteArray} {pos : Nat} (hp : pos < s.size) (h : s[pos].toNat < 128) : (Utf8.decode s pos).2 = 1 := by rw [decode_ascii s pos hp h]
theorem decode_lo {s : ByteArray} {pos : Nat} (hp : pos < s.size) (h : (Utf8.decode s pos).1 < 128) : s[pos].toNat = (Utf8.decode s pos).1 ∧ (Utf8.decode s pos).2 = 1 := by
  by_cases ha : s[pos].toNat < 128
  · rw [decode_ascii s pos hp ha]
    exact ⟨rfl, rfl⟩
  · have := decode_high s pos hp (by omega)
    omega
/-- The bytes of a prefix, in the text. -/
theorem prefix_at {s : ByteArray} {n : Nat} {p : B8} (h : Lib.hasPrefix (s.data.toList.drop n) p = true) (hp : p ≠ []) : n + p.length ≤ s.size ∧ ∀ j (hj : j < s.size), n ≤ j → j < n + p.length → s[j] ∈ p := by
  obtain ⟨t, ht⟩ := (hasPrefix_iff _ _).1 h
  have hl := congrArg List.length ht
  rw [List.length_drop, size_len, List.length_append] at hl
  have hpl : 0 < p.length := List.length_pos_iff.2 hp
  refine ⟨by omega, fun j hj h1 h2 => ?_⟩
  have e : s.data.toList[j]? = some s[j] := by
    rw [List.getElem?_eq_getElem (by rw [size_len]; exact hj)]
    rfl
  have e2 : (s.data.toList.drop n)[j - n]? = some s[j] := by rw [List.getElem?_drop, Nat.add_sub_cancel' h1]; exact e
  rw [ht, List.getElem?_append_left (by omega)] at e2
  exact List.mem_of_getElem? e2
/-- How far one step goes: what is passed beyond the rune is of ASCII. -/
theorem adv {s : ByteArray} {pos : Nat} (hp : pos < s.size) (hx : Lib.hasPrefix (s.data.toList.drop pos) (qr (nx (s.data.toList.drop pos))) = true) :
    pos + (Utf8.decode s pos).2 ≤ pos + (qr (nx (s.data.toList.drop pos))).length ∧ pos + (qr (nx (s.data.toList.drop pos))).length ≤ s.size ∧
      ∀ j (hj : j < s.size), pos + (Utf8.decode s pos).2 ≤ j → j < pos + (qr (nx (s.data.toList.drop pos))).length → (s[j]).toNat < 128 := by
  have hne : s.data.toList.drop pos ≠ [] := by rw [drop_cons hp]; simp
  have hd := Lib.decodeL_drop s pos
  have hle := nx_le (s.data.toList.drop pos)
  have hq1 := qr_pos _ hle
  have hat := prefix_at hx (by intro h; rw [h] at hq1; simp at hq1)
  by_cases h92 : (Utf8.decode s pos).1 = 92
  · have hlo := decode_lo hp (by rw [h92]; decide)
    have hb : s[pos] = 92 := by
      rw [h92] at hlo
      exact UInt8.toNat_inj.1 (by rw [hlo.1]; rfl)
    rw [hlo.2]
    refine ⟨by omega, hat.1, fun j hj h1 h2 => ?_⟩
    have hx' := hx
    rw [drop_cons hp, hb] at hx'
    rw [drop_cons hp, hb] at h2 hat hle
    exact qr_ascii _ hle _ hx' _ (hat.2 j hj (by omega) h2)
  · have hn : nx (s.data.toList.drop pos) = (Lib.decodeL (s.data.toList.drop pos)).1 := by unfold nx; rw [hd, if_neg h92]
    have hw := qr_width (s.data.toList.drop pos) hne (by rw [hd]; exact h92) (by rw [← hn]; exact hx)
    rw [← hn, hd] at hw
    rw [hw]
    rw [hw] at hat
    exact ⟨by omega, hat.1, fun j hj h1 h2 => by omega⟩
theorem unqF_quote {s : ByteArray} {pos f : Nat} {acc : B8} (hp : pos < s.size) (h : (Utf8.decode s pos).1 = 34) : unqF (f + 1) (s.data.toList.drop pos) acc pos = some (acc, pos + 1) := by
  have hne : s.data.toList.drop pos ≠ [] := by rw [drop_cons hp]; simp
  show (if _ then _ else _) = _
  rw [if_neg hne, Lib.decodeL_drop, if_pos h]
theorem unqF_on {s : ByteArray} {pos f : Nat} {acc : B8} (hp : pos < s.size) (h : (Utf8.decode s pos).1 ≠ 34) (hx : Lib.hasPrefix (s.data.toList.drop pos) (qr (nx (s.data.toList.drop pos))) = true) :
    unqF (f + 1) (s.data.toList.drop pos) acc pos = unqF f (s.data.toList.drop (pos + (qr (nx (s.data.toList.drop pos))).length)) (acc ++ Lib.encodeRune (nx (s.data.toList.drop pos) : Int)) (pos + (qr (nx (s.data.toList.drop pos))).length) := by
  have hne : s.data.toList.drop pos ≠ [] := by rw [drop_cons hp]; simp
  show (if _ then _ else _) = _
  rw [if_neg hne, Lib.decodeL_drop, if_neg h, if_pos hx, List.drop_drop]
theorem unqF_off {s : ByteArray} {pos f : Nat} {acc : B8} (hp : pos < s.size) (h : (Utf8.decode s pos).1 ≠ 34) (hx : Lib.hasPrefix (s.data.toList.drop pos) (qr (nx (s.data.toList.drop pos))) = false) :
    unqF (f + 1) (s.data.toList.drop pos) acc pos = none := by
  have hne : s.data.toList.drop pos ≠ [] := by rw [drop_cons hp]; simp
  show (if _ then _ else _) = _
  rw [if_neg hne, Lib.decodeL_drop, if_neg h, if_neg (by rw [hx]; simp)]
def Meant (s : ByteArray) : Prop := ∀ (t : ByteArray) (w : World), (92 : UInt8) ∈ s.data.toList → t.size ≤ s.size → Tabs w → Calls Tryz.prog 108 #[.string t] w fun e w' => e = .returned (.int .i32 (meantS t.data.toList)) ∧ Below w.heap.size w w'
def Unq (o : Option (B8 × Nat)) (w : World) (e : Ending) (w' : World) : Prop :=
  (match o with | some (a, n) => e = .returned (.tuple #[.string ⟨a.toArray⟩, .int .i64 n, .bool true]) | none => e = .returned (.tuple #[.string ⟨#[]⟩, .int .i64 0, .bool false])) ∧ Below w.heap.size w w'

/-- What holds at each jump to the label. -/
def NoneAt (s : ByteArray) (w : World) (a : Act) (w' : World) : Prop := ∃ t0 t1 t2 t3 t4 t5 t6 t7 t8 t9 t10 t11 t12 t13 t14 t15 t16 t17 t18 t19 t20 t21 t22 t23 t24 t25 t26 t27 t28 t29 t30 t31 t32 t33 t34 t35 t36 t37 t38 t39 t40 t41 t42 t43 t44 t45 : Value, a = { tmps := #[t0, t1, t2, t3, t4, t5, t6, t7, t8, t9, t10, t11, t12, t13, t14, t15, t16, t17, t18, t19, t20, t21, t22, t23, t24, t25, t26, t27, t28, t29, t30, t31, t32, t33, t34, t35, t36, t37, t38, t39, t40, t41, t42, t43, t44, t45], defers := [] } ∧ Below w.heap.size w w' ∧ unquoteS s.data.toList = none
theorem noneAt {s : ByteArray} {w w' : World} (t0 t1 t2 t3 t4 t5 t6 t7 t8 t9 t10 t11 t12 t13 t14 t15 t16 t17 t18 t19 t20 t21 t22 t23 t24 t25 t26 t27 t28 t29 t30 t31 t32 t33 t34 t35 t36 t37 t38 t39 t40 t41 t42 t43 t44 t45 : Value) (hb : Below w.heap.size w w') (h : unquoteS s.data.toList = none) : NoneAt s w { tmps := #[t0, t1, t2, t3, t4, t5, t6, t7, t8, t9, t10, t11, t12, t13, t14, t15, t16, t17, t18, t19, t20, t21, t22, t23, t24, t25, t26, t27, t28, t29, t30, t31, t32, t33, t34, t35, t36, t37, t38, t39, t40, t41, t42, t43, t44, t45], defers := [] } w' := ⟨t0, t1, t2, t3, t4, t5, t6, t7, t8, t9, t10, t11, t12, t13, t14, t15, t16, t17, t18, t19, t20, t21, t22, t23, t24, t25, t26, t27, t28, t29, t30, t31, t32, t33, t34, t35, t36, t37, t38, t39, t40, t41, t42, t43, t44, t45, rfl, hb, h⟩
set_option maxHeartbeats 1000000 in
set_option maxRecDepth 100000 in
theorem Unquote_is (s : ByteArray) (w : World) (hs : s.size ≤ 140737488355200) (hT : Tabs w) (hM : Meant s) :
    Calls Tryz.prog 75 #[.string s] w (Unq (unquoteS s.data.toList) w) := by
  have hP := Tryz.strings_HasPrefix s ⟨#[34]⟩
  go_enter Tryz.func75, Tryz.ntmps75
  go_wp2
  refine wp_scope_jumps 0 (NoneAt s w) (fun _ _ => 0) rfl ?_ ?_
  case refine_2 =>
    rintro a w' ⟨t0, t1, t2, t3, t4, t5, t6, t7, t8, t9, t10, t11, t12, t13, t14, t15, t16, t17, t18, t19, t20, t21, t22, t23, t24, t25, t26, t27, t28, t29, t30, t31, t32, t33, t34, t35, t36, t37, t38, t39, t40, t41, t42, t43, t44, t45, rfl, hb, hn⟩
    go_wp2
    change bodyPost Tryz.prog Tryz.f75 (Unq (unquoteS s.data.toList) w) Exit.ret _ _
    go_ret3
    rw [hn]
    exact ⟨rfl, hb⟩
  cases hp0 : Lib.hasPrefix s.data.toList [34] with
  | false =>
    have HQ : Hid (unquoteS s.data.toList = none) := hid (by simp [unquoteS, hp0])
    have hP' : ∀ w, Calls Tryz.prog 107 #[.string s, .string ⟨#[34]⟩] w fun e w' => e = .returned (.bool false) ∧ w' = w := fun w => by rw [← hp0]; exact hP w
    clear hT hM hP
    go_wp2_with (go_at_call 107; refine (hP' _).mono ?_; rintro e w' ⟨rfl, rfl⟩)
    go_step3
    exact ⟨rfl, _, _, _, _, _, _, _, _, _, _, _, _, _, _, _, _, _, _, _, _, _, _, _, _, _, _, _, _, _, _, _, _, _, _, _, _, _, _, _, _, _, _, _, _, _, _, rfl, (Below.refl _ _).alloc (Nat.le_refl _) _, HQ.out⟩
  | true =>
    have HQ : Hid (unquoteS s.data.toList = unqF s.size (s.data.toList.drop 1) [] 1) := hid (by unfold unquoteS; rw [if_pos hp0, size_len])
    have hP' : ∀ w, Calls Tryz.prog 107 #[.string s, .string ⟨#[34]⟩] w fun e w' => e = .returned (.bool true) ∧ w' = w := fun w => by rw [← hp0]; exact hP w
    clear hP
    obtain ⟨h1s, h1b⟩ := prefix_at (n := 0) (by simpa using hp0) (by simp)
    have h1s' : 1 ≤ s.size := by simpa using h1s
    have h1b' : ∀ j (hj : j < s.size), 0 ≤ j → j < 1 → (s[j]).toNat < 128 := fun j hj h0 h1 => by
      have := h1b j hj h0 (by simpa using h1)
      simp at this
      rw [this]
      decide
    clear h1s h1b
    go_wp2_with (go_at_call 107; refine (hP' _).mono ?_; rintro e w' ⟨rfl, rfl⟩)
    clear hP'
    have hfr : Lib.IsBuilderF 81 5 w.heap.size w.heap.size (Lib.byteCells []) (w.alloc (.cells #[.pointer none, .slice none 0 0] 81)) := Lib.IsBuilderF.of (Lib.fresh_isBuilder 81 5 w)
    go_loopw [3] (fun v wr => ∃ (pos n : Nat) (acc : B8), v = .int .i64 n ∧ Lib.IsBuilderF 81 5 w.heap.size w.heap.size (Lib.byteCells acc) wr ∧ wr.heap[w.heap.size + 1]? = some (.stringIter s pos) ∧ Below w.heap.size w wr ∧
      Hid (∃ f, unquoteS s.data.toList = unqF f (s.data.toList.drop n) acc n ∧ s.size ≤ n + f) ∧ acc.length + 1 ≤ n ∧ pos ≤ n ∧ n ≤ s.size ∧ Hid (∀ j (hj : j < s.size), pos ≤ j → j < n → (s[j]).toNat < 128)) (fun _ wr => s.size - wr.iterPos (w.heap.size + 1))
    case atStart =>
      refine ⟨0, 1, [], rfl, hfr.alloc _, ?_, ((Below.refl _ w).alloc (Nat.le_refl _) _).alloc (by simp) _, hid ⟨s.size, HQ.out, by omega⟩, by simp, by omega, by omega, hid h1b'⟩
      have := World.iter_heap (w.alloc (.cells #[.pointer none, .slice none 0 0] 81)) s 0
      simpa using this
    case round =>
      obtain ⟨pos, n, acc, rfl, hI, hit, hbw, HX, hal, hpn, hns, HA⟩ := hrel
      have hsz : w.heap.size + 1 < wr.heap.size := (Array.getElem?_eq_some_iff.1 hit).1
      by_cases hp : pos < s.size
      · have hnx : ∀ ty, (Instr.next (.pointer (some ⟨w.heap.size + 1, 0, none⟩)) true ty).run Tryz.prog wr = _ := fun ty => Lib.run_next_any_at wr (w.heap.size + 1) s pos ty hit hp
        have hwd := Lib.width_pos s pos
        have hdr := Lib.rune_le s pos
        have hI2 := hI.iterAt hit (pos + (Utf8.decode s pos).2)
        have hit2 := Lib.iterAt_heap wr (w.heap.size + 1) s pos (pos + (Utf8.decode s pos).2) hit
        have hbw2 := Lib.below_iterAt hbw (k := w.heap.size + 1) (by omega) s (pos + (Utf8.decode s pos).2)
        by_cases hlt : pos < n
        · have ha := HA.out pos hp (Nat.le_refl _) hlt
          have hk1 := ascii_step hp ha
          rw [hk1] at hI2 hit2 hbw2 hnx
          clear hM hT
          go_wp2
          go_roundw
          case rel => exact ⟨pos + 1, n, acc, rfl, hI2, hit2, hbw2, HX, hal, by omega, hns, hid fun j hj h1 h2 => HA.out j hj (by omega) h2⟩
          case measure =>
            simp only [World.iterPos, hit2, hit]
            omega
        · obtain rfl : pos = n := by omega
          obtain ⟨f, hX, hf⟩ := HX.out
          obtain ⟨f, rfl⟩ : ∃ g, f = g + 1 := ⟨f - 1, by omega⟩
          have hTr := hT.below hbw2
          have hxle := nx_le (s.data.toList.drop pos)
          have hsz2 : w.heap.size ≤ (wr.iterAt (w.heap.size + 1) s (pos + (Utf8.decode s pos).2)).heap.size := by rw [Lib.iterAt_size]; omega
          by_cases h34 : (Utf8.decode s pos).1 = 34
          · have hq := unqF_quote (f := f) (acc := acc) hp h34
            have HU : Hid (unquoteS s.data.toList = some (acc, pos + 1)) := hid (hX.trans hq)
            clear hq hX hM hT
            rw [h34] at hnx
            generalize (Utf8.decode s pos).2 = k at *
            go_wp2_with (go_at_call 44; refine (Tryz.Builder_String_any_k w.heap.size w.heap.size acc _ hI2 hsz2).mono ?_; rintro e w5 ⟨rfl, _, b5, _⟩)
            change bodyPost Tryz.prog Tryz.f75 (Unq (unquoteS s.data.toList) w) Exit.ret _ _
            go_ret3
            rw [HU.out]
            exact ⟨rfl, hbw2.trans b5⟩
          · have hx34 : ((((Utf8.decode s pos).1 : Nat) : Int) == 34) = false := by simp; omega
            have hel : (s.extract pos s.size).data.toList = s.data.toList.drop pos := extract_drop s pos
            have hes : (s.extract pos s.size).size ≤ s.size := by rw [← size_len, hel, List.length_drop, size_len]; omega
            have hpx0 := fun w => Tryz.strings_HasPrefix (s.extract pos s.size) ⟨(qr (nx (s.data.toList.drop pos))).toArray⟩ w
            rw [hel] at hpx0
            simp only [] at hpx0
            have hxu := @unqF_off s pos f acc hp h34
            have hxo := @unqF_on s pos f acc hp h34
            have hadv := adv hp
            have hm : (Utf8.decode s pos).1 = 92 → ∀ w, Tabs w → Calls Tryz.prog 108 #[.string (s.extract pos s.size)] w fun e w' => e = .returned (.int .i32 (nx (s.data.toList.drop pos) : Nat)) ∧ Below w.heap.size w w'   := fun h92 w hTw => by
              have hlo := decode_lo hp (by rw [h92]; decide)
              have hb : s[pos] = 92 := UInt8.toNat_inj.1 (by rw [hlo.1, h92]; rfl)
              have hmem : (92 : UInt8) ∈ s.data.toList := by
                rw [← hb]
                exact List.mem_of_getElem? (i := pos) (by rw [List.getElem?_eq_getElem (by rw [size_len]; exact hp)]; rfl)
              have hn : nx (s.data.toList.drop pos) = meantS (s.data.toList.drop pos) := by unfold nx; rw [Lib.decodeL_drop, if_pos h92]
              rw [hn, ← hel]
              exact hM _ w hmem hes hTw
            have hnr : (Utf8.decode s pos).1 ≠ 92 → (Utf8.decode s pos).1 = nx (s.data.toList.drop pos) := fun h92 => by unfold nx; rw [Lib.decodeL_drop, if_neg h92]
            clear hM hT
            generalize hrr : nx (s.data.toList.drop pos) = rr at *
            cases hx : Lib.hasPrefix (s.data.toList.drop pos) (qr rr) with
            | false =>
              have HU : Hid (unquoteS s.data.toList = none) := hid (hX.trans (hxu hx))
              have hpx : ∀ w, Calls Tryz.prog 107 #[.string (s.extract pos s.size), .string ⟨(qr rr).toArray⟩] w fun e w' => e = .returned (.bool false) ∧ w' = w := by rw [← hx]; exact hpx0
              clear hxu hxo hadv hpx0 hx hX
              by_cases h92 : (Utf8.decode s pos).1 = 92
              · replace hm := hm h92
                rw [h92] at hnx
                generalize (Utf8.decode s pos).2 = k at *
                go_wp2_with (first | (go_at_call 108; refine (hm _ hTr).mono ?_; rintro e w3 ⟨rfl, b3⟩) | (go_at_call 86; refine (quoted_is rr hxle _ (hTr.below b3).deb).mono ?_; rintro e w4 ⟨rfl, b4⟩) | (go_at_call 107; refine (hpx _).mono ?_; rintro e w5 ⟨rfl, rfl⟩))
                go_step3
                exact ⟨rfl, _, _, _, _, _, _, _, _, _, _, _, _, _, _, _, _, _, _, _, _, _, _, _, _, _, _, _, _, _, _, _, _, _, _, _, _, _, _, _, _, _, _, _, _, _, _, rfl, hbw2.trans ((b3.mono hsz2).trans (b4.mono (Nat.le_trans hsz2 b3.size))), HU.out⟩
              · have hx92 : ((((Utf8.decode s pos).1 : Nat) : Int) == 92) = false := by simp; omega
                rw [hnr h92] at hnx hx34 hx92
                generalize (Utf8.decode s pos).2 = k at *
                clear hm
                go_wp2_with (first | (go_at_call 86; refine (quoted_is rr hxle _ hTr.deb).mono ?_; rintro e w4 ⟨rfl, b4⟩) | (go_at_call 107; refine (hpx _).mono ?_; rintro e w5 ⟨rfl, rfl⟩))
                go_step3
                exact ⟨rfl, _, _, _, _, _, _, _, _, _, _, _, _, _, _, _, _, _, _, _, _, _, _, _, _, _, _, _, _, _, _, _, _, _, _, _, _, _, _, _, _, _, _, _, _, _, _, rfl, hbw2.trans (b4.mono hsz2), HU.out⟩
            | true =>
              obtain ⟨ha1, ha2, ha3⟩ := hadv hx
              have HU := hid (hX.trans (hxo hx))
              have HA3 := hid ha3
              have hpx : ∀ w, Calls Tryz.prog 107 #[.string (s.extract pos s.size), .string ⟨(qr rr).toArray⟩] w fun e w' => e = .returned (.bool true) ∧ w' = w := by rw [← hx]; exact hpx0
              have hlq := encodeRune_le_qr rr hxle
              have hitb : w.heap.size + 1 < (wr.iterAt (w.heap.size + 1) s (pos + (Utf8.decode s pos).2)).heap.size := by rw [Lib.iterAt_size]; exact hsz
              clear hxu hxo hadv hpx0 hx hX ha3
              by_cases h92 : (Utf8.decode s pos).1 = 92
              · replace hm := hm h92
                rw [h92] at hnx
                generalize (Utf8.decode s pos).2 = k at *
                go_wp2_with (first | (go_at_call 108; refine (hm _ hTr).mono ?_; rintro e w3 ⟨rfl, b3⟩) | (go_at_call 86; refine (quoted_is rr hxle _ (hTr.below b3).deb).mono ?_; rintro e w4 ⟨rfl, b4⟩) | (go_at_call 107; refine (hpx _).mono ?_; rintro e w5 ⟨rfl, rfl⟩) | (go_at_call 109; refine (writesRune w.heap.size acc rr hxle _ (builder_below (builder_below hI2 b3) b4) (by omega) (by have := b3.size; have := b4.size; omega)).mono ?_; rintro e w6 ⟨rfl, h6, b6, k6⟩))
                have hit3 := k6.iter ((b4.block _ (Nat.lt_of_lt_of_le hitb b3.size)).trans ((b3.block _ hitb).trans hit2)) (by omega)
                have hbw3 := (hbw2.trans ((b3.mono hsz2).trans (b4.mono (Nat.le_trans hsz2 b3.size)))).trans b6
                go_roundw
                case rel => exact ⟨pos + k, pos + (qr rr).length, acc ++ Lib.encodeRune (rr : Int), by go_num, h6, hit3, hbw3, hid ⟨f, HU.out, by omega⟩, by simp; omega, ha1, ha2, HA3⟩
                case measure =>
                  simp only [World.iterPos, hit3, hit]
                  omega
              · have hx92 : ((((Utf8.decode s pos).1 : Nat) : Int) == 92) = false := by simp; omega
                rw [hnr h92] at hnx hx34 hx92
                generalize (Utf8.decode s pos).2 = k at *
                clear hm
                go_wp2_with (first | (go_at_call 86; refine (quoted_is rr hxle _ hTr.deb).mono ?_; rintro e w4 ⟨rfl, b4⟩) | (go_at_call 107; refine (hpx _).mono ?_; rintro e w5 ⟨rfl, rfl⟩) | (go_at_call 109; refine (writesRune w.heap.size acc rr hxle _ (builder_below hI2 b4) (by omega) (by have := b4.size; omega)).mono ?_; rintro e w6 ⟨rfl, h6, b6, k6⟩))
                have hit3 := k6.iter ((b4.block _ hitb).trans hit2) (by omega)
                have hbw3 := (hbw2.trans (b4.mono hsz2)).trans b6
                go_roundw
                case rel => exact ⟨pos + k, pos + (qr rr).length, acc ++ Lib.encodeRune (rr : Int), by go_num, h6, hit3, hbw3, hid ⟨f, HU.out, by omega⟩, by simp; omega, ha1, ha2, HA3⟩
                case measure =>
                  simp only [World.iterPos, hit3, hit]
                  omega
      · have hnx : ∀ ty, (Instr.next (.pointer (some ⟨w.heap.size + 1, 0, none⟩)) true ty).run Tryz.prog wr = _ := fun ty => Lib.run_next_end_at wr (w.heap.size + 1) s pos ty hit hp
        have HU : Hid (unquoteS s.data.toList = none) := hid (by obtain ⟨f, h1, h2⟩ := HX.out; rw [h1, drop_end (by omega), unqF_nil])
        go_wp2
        go_step3
        go_wp2
        change bodyPost Tryz.prog Tryz.f75 (Unq (unquoteS s.data.toList) w) Exit.ret _ _
        go_ret3
        rw [HU.out]
        exact ⟨rfl, hbw⟩
end Go.Proofs.YtlhodanpfpfodaaGreatDoor
