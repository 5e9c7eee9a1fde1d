/-
  What strings.Cut answers at a separator of one byte, and label.sign. Condition: the text has fewer than 2^63 bytes.
-/
import Derived.Test.YtlhodanpfpfodaaGreatDoorUnq
namespace Go.Proofs.YtlhodanpfpfodaaGreatDoor
open Go.RowKit Go.Icz

def before (l : B8) (c : UInt8) : B8 := l.takeWhile (· != c)
def after (l : B8) (c : UInt8) : B8 := (l.dropWhile (· != c)).drop 1
theorem idx_split : ∀ (l : B8) (c : UInt8), (Lib.indexByte l c = -1 ∧ c ∉ l ∧ before l c = l ∧ after l c = []) ∨ ∃ k : Nat, k < l.length ∧ Lib.indexByte l c = (k : Int) ∧ c ∈ l ∧ before l c = l.take k ∧ after l c = l.drop (k + 1)
  | [], c => .inl ⟨rfl, by simp, rfl, rfl⟩
  | b :: t, c => by
    by_cases h : b = c
    · subst h
      exact .inr ⟨0, by simp, by simp [Lib.indexByte], by simp, by simp [before], by simp [after]⟩
    · have hb : (b == c) = false := by simpa using h
      have hbn : (b != c) = true := by simpa using h
      have e1 : before (b :: t) c = b :: before t c := by simp [before, hbn]
      have e2 : after (b :: t) c = after t c := by simp [after, hbn]
      rcases idx_split t c with ⟨h1, h2, h3, h4⟩ | ⟨k, hk, h1, h2, h3, h4⟩
      · exact .inl ⟨by simp [Lib.indexByte, hb, h1], by simp [h2, Ne.symm h], by rw [e1, h3], by rw [e2, h4]⟩
      · refine .inr ⟨k + 1, by simpa using hk, ?_, by simp [h2], by rw [e1, h3]; rfl, by rw [e2, h4]; rfl⟩
        have : ((k : Int) == -1) = false := by simp
        simp [Lib.indexByte, hb, h1, this]

theorem Index_one (s : ByteArray) (c : UInt8) (w : World) : Calls Tryz.prog 125 #[.string s, .string ⟨#[c]⟩] w fun e w' => e = .returned (.int .i64 (Lib.indexByte s.data.toList c)) ∧ w' = w := by
  have h := fun w => Tryz.stringslite_IndexByte s (c.toNat : Int) w
  have e : ((c.toNat : Int)).toNat.toUInt8 = c := by simp
  rw [e] at h
  by_cases hs : [c] = s.data.toList
  · have hi : Lib.indexByte s.data.toList c = 0 := by rw [← hs]; simp [Lib.indexByte]
    have he : ([c] == s.toList) = true := by
      have := ByteArray.toList_eq s
      rw [this, ← hs]
      simp
    rw [hi]
    clear h hs hi
    go_enter Tryz.func125, Tryz.ntmps125
    go_wp2
    go_ret
    exact ⟨rfl, rfl⟩
  · have he : ([c] == s.toList) = false := by
      have := ByteArray.toList_eq s
      rw [this]
      simpa using hs
    go_enter Tryz.func125, Tryz.ntmps125
    go_wp2_with (go_at_call 153; refine (h _).mono ?_; rintro e w' ⟨rfl, rfl⟩)
    go_ret
    exact ⟨rfl, rfl⟩
def has (l : B8) (c : UInt8) : Bool := decide (c ∈ l)
/-- What Cut answers. -/
def Cuts (l : B8) (c : UInt8) (w : World) (e : Ending) (w' : World) : Prop := e = .returned (.tuple #[.string ⟨(before l c).toArray⟩, .string ⟨(after l c).toArray⟩, .bool (has l c)]) ∧ Below w.heap.size w w'
theorem stringslite_Cut (s : ByteArray) (c : UInt8) (w : World) (hs : s.size ≤ 9223372036854775806) : Calls Tryz.prog 106 #[.string s, .string ⟨#[c]⟩] w (Cuts s.data.toList c w) := by
  have h := Index_one s c
  rcases idx_split s.data.toList c with ⟨h1, h2, h3, h4⟩ | ⟨k, hk, h1, h2, h3, h4⟩
  · rw [h1] at h
    have H := hid (And.intro h2 (And.intro h3 h4))
    clear h1 h2 h3 h4
    go_enter Tryz.func106, Tryz.ntmps106
    go_wp2_with (go_at_call 125; refine (h _).mono ?_; rintro e w' ⟨rfl, rfl⟩)
    go_ret3
    obtain ⟨h2, h3, h4⟩ := H.out
    unfold Cuts
    rw [h3, h4, show has s.data.toList c = false from decide_eq_false h2]
    exact ⟨rfl, Below.refl _ _⟩
  · rw [h1] at h
    rw [size_len] at hk
    have H := hid (And.intro h2 (And.intro h3 h4))
    have e1 := Lib.extract_upto s k
    have e2 := Lib.extract_from s (k + 1)
    clear h1 h2 h3 h4
    go_enter Tryz.func106, Tryz.ntmps106
    go_wp2_with (go_at_call 125; refine (h _).mono ?_; rintro e w' ⟨rfl, rfl⟩)
    go_region
    go_wp2
    go_ret3
    obtain ⟨h2, h3, h4⟩ := H.out
    unfold Cuts
    rw [h3, h4, show has s.data.toList c = true from decide_eq_true h2]
    exact ⟨rfl, (Below.refl _ _).drew⟩
theorem Cut_is (s : ByteArray) (c : UInt8) (w : World) (hs : s.size ≤ 9223372036854775806) : Calls Tryz.prog 74 #[.string s, .string ⟨#[c]⟩] w (Cuts s.data.toList c w) := by
  have h := stringslite_Cut s c
  go_enter Tryz.func74, Tryz.ntmps74
  go_wp2_with (go_at_call 106; refine (h _ hs).mono ?_; rintro e w' ⟨rfl, b⟩)
  go_ret3
  exact ⟨rfl, b⟩

theorem TrimL_is (s : ByteArray) (w : World) : Calls Tryz.prog 73 #[.string s, .string ⟨#[32]⟩] w fun e w' => e = .returned (.string ⟨(Lib.trimLeftB s.data.toList 32).toArray⟩) ∧ w' = w := Tryz.strings_TrimLeft_one s 32 (by decide) w
/-! label.sign: what stands behind a sign and the blanks around it. -/
def trimL (l : B8) : B8 := Lib.trimLeftB l 32
def signS (l : B8) (c : UInt8) : B8 × Bool := if Lib.hasPrefix (trimL l) [c] then (trimL ((trimL l).drop 1), true) else (l, false)
theorem mk_data (s : ByteArray) : (⟨s.data.toList.toArray⟩ : ByteArray) = s := by simp
theorem TrimL (s : ByteArray) (w : World) : Calls Tryz.prog 73 #[.string s, .string ⟨#[32]⟩] w fun e w' => e = .returned (.string ⟨(trimL s.data.toList).toArray⟩) ∧ w' = w := TrimL_is s w
theorem TrimL_l (l : B8) (w : World) : Calls Tryz.prog 73 #[.string ⟨l.toArray⟩, .string ⟨#[32]⟩] w fun e w' => e = .returned (.string ⟨(trimL l).toArray⟩) ∧ w' = w := TrimL_is ⟨l.toArray⟩ w
set_option maxRecDepth 100000 in
theorem sign_is (s : ByteArray) (c : UInt8) (w : World) : Calls Tryz.prog 33 #[.string s, .string ⟨#[c]⟩] w fun e w' => e = .returned (.tuple #[.string ⟨(signS s.data.toList c).1.toArray⟩, .bool (signS s.data.toList c).2]) ∧ Below w.heap.size w w' := by
  have h1 := TrimL s
  have h2 := fun w => Tryz.strings_CutPrefix ⟨(trimL s.data.toList).toArray⟩ ⟨#[c]⟩ w
  have e0 : (⟨(trimL s.data.toList).toArray⟩ : ByteArray).data.toList = trimL s.data.toList := by simp
  have e1 : (⟨#[c]⟩ : ByteArray).data.toList = [c] := rfl
  rw [e0, e1] at h2
  have hp : Lib.trimPrefix (trimL s.data.toList) [c] = if Lib.hasPrefix (trimL s.data.toList) [c] then (trimL s.data.toList).drop 1 else trimL s.data.toList := rfl
  cases hx : Lib.hasPrefix (trimL s.data.toList) [c] with
  | false =>
    have HS : Hid (signS s.data.toList c = (s.data.toList, false)) := hid (by unfold signS; rw [hx]; rfl)
    have h2' : ∀ w, ∃ u, Calls Tryz.prog 72 #[.string ⟨(trimL s.data.toList).toArray⟩, .string ⟨#[c]⟩] w fun e w' => e = .returned (.tuple #[.string u, .bool false]) ∧ w' = w := fun w => ⟨_, by have := h2 w; rw [hx] at this; exact this⟩
    obtain ⟨u, h3⟩ := Classical.axiomOfChoice h2'
    clear h2 h2' hp hx
    go_enter Tryz.func33, Tryz.ntmps33
    go_wp2_with (first | (go_at_call 73; refine (h1 _).mono ?_; rintro e w1 ⟨rfl, rfl⟩; clear h1) | (go_at_call 72; refine (h3 _).mono ?_; rintro e w2 ⟨rfl, rfl⟩))
    go_ret2
    rw [HS.out, mk_data]
    exact ⟨rfl, Below.refl _ _⟩
  | true =>
    have HS : Hid (signS s.data.toList c = (trimL ((trimL s.data.toList).drop 1), true)) := hid (by unfold signS; rw [hx]; rfl)
    rw [hp, hx, if_pos rfl] at h2
    have h4 := TrimL_l ((trimL s.data.toList).drop 1)
    clear hp hx e0
    generalize (trimL s.data.toList).drop 1 = u at h2 h4 HS
    generalize trimL s.data.toList = v at h1 h2
    go_enter Tryz.func33, Tryz.ntmps33
    go_wp2_with (first | (go_at_call 73; refine (h1 _).mono ?_; rintro e w1 ⟨rfl, rfl⟩; clear h1) | (go_at_call 72; refine (h2 _).mono ?_; rintro e w2 ⟨rfl, rfl⟩) | (go_at_call 73; refine (h4 _).mono ?_; rintro e w3 ⟨rfl, rfl⟩))
    go_ret2
    rw [HS.out]
    exact ⟨rfl, Below.refl _ _⟩
end Go.Proofs.YtlhodanpfpfodaaGreatDoor
