/-
  Unframe of any bytes, in one: what it answers, and what an answer without an error says of the bytes. Conditions: the slice reads as bytes, the table's variable holds its numbers.
-/
import Derived.Test.YtpcmonebihgjhaaDoorMath
namespace Go.Proofs.YtpcmonebihgjhaaDoor
open Go.RowKit Go.Icy
def UfGen (w : World) (l : List Nat) (e : Ending) (w' : World) : Prop :=
  ∃ (k : Nat) (inn : List Nat) (n er : Nat), UF w k inn n er e w' ∧ er ≤ 22 ∧ n ≤ l.length ∧ (er = 0 → l.head? = some 165 ∧ ∃ n' s', rdn (l.drop 2) = (n', s', 0) ∧ 2 + s' + 4 + n' = n ∧
    beN ((l.drop (2 + s')).take 4) = crc ((l.drop 1).take (1 + s') ++ (l.drop (2 + s' + 4)).take n'))
theorem UfGen.of_fail {w : World} {l : List Nat} {er : Nat} {e : Ending} {w' : World} (h0 : er ≠ 0) (h1 : er ≤ 22) (h : UF w 0 [] 0 er e w') : UfGen w l e w' := ⟨0, [], 0, er, h, h1, Nat.zero_le _, fun e => absurd e h0⟩
theorem rdGo_err : ∀ (l : List Nat) (i a : Nat), (rdGo l i a).2.2 ≤ 22
  | [], _, _ => by simp [rdGo]
  | c :: l, i, a => by
    rw [rdGo]
    split
    · exact rdGo_err l _ _
    · split <;> simp
theorem Unframe_gen (v : Value) (l : List Nat) (w : World) (hv : Rd w v l) (hl : ∀ c ∈ l, c < 256) (hlen : l.length ≤ 4611686018427387904) (hT : Tab w) : Calls Tryd.prog 17 #[v] w (UfGen w l) := by
  match l, hv, hl, hlen with
  | [], hv, _, _ => exact (Unframe_empty v w hv).mono fun _ _ h => UfGen.of_fail (by omega) (by omega) h
  | x :: l', hv, hl, hlen =>
    by_cases hx : x = 165
    · subst hx
      by_cases h2 : l' = []
      · subst h2
        exact (Unframe_one v w hv).mono fun _ _ h => UfGen.of_fail (by omega) (by omega) h
      · have h2' : 0 < l'.length := List.length_pos_iff.2 h2
        have hL : (165 :: l').length = l'.length + 1 := rfl
        obtain ⟨n, s, er, hr⟩ : ∃ n s er, rdn ((165 :: l').drop 2) = (n, s, er) := ⟨_, _, _, rfl⟩
        have herr : er ≤ 22 := by
          have := rdGo_err ((165 :: l').drop 2) 0 0
          rw [show rdGo ((165 :: l').drop 2) 0 0 = (n, s, er) from hr] at this
          exact this
        by_cases he : er = 0
        · subst he
          have hsz := rdGo_size ((165 :: l').drop 2) 0 0 (by omega) (by rw [show rdGo ((165 :: l').drop 2) 0 0 = (n, s, 0) from hr])
          rw [show rdGo ((165 :: l').drop 2) 0 0 = (n, s, 0) from hr] at hsz
          simp only [List.length_drop, hL] at hsz
          by_cases hbig : 1048576 < n
          · exact (Unframe_big v _ w n s hv (by omega) rfl hl (by omega) hr hbig).mono fun _ _ h => UfGen.of_fail (by omega) (by omega) h
          · by_cases hsh : (165 :: l').length < 2 + s + 4 + n
            · exact (Unframe_short v _ w n s hv (by omega) rfl hl (by omega) hr (by omega) (by omega) (by omega) hsh).mono fun _ _ h => UfGen.of_fail (by omega) (by omega) h
            · by_cases hs : beN (((165 :: l').drop (2 + s)).take 4) = crc (((165 :: l').drop 1).take (1 + s) ++ ((165 :: l').drop (2 + s + 4)).take n)
              · exact (Unframe_ok v _ w n s hv (by omega) rfl hl hlen hT hr (by omega) (by omega) (by omega) hs).mono fun _ _ h => ⟨_, _, _, 0, h, by omega, by omega, fun _ => ⟨rfl, n, s, hr, rfl, hs⟩⟩
              · exact (Unframe_sum v _ w n s hv (by omega) rfl hl hlen hT hr (by omega) (by omega) (by omega) hs).mono fun _ _ h => UfGen.of_fail (by omega) (by omega) h
        · exact (Unframe_num v _ w n s er hv (by omega) rfl hl (by omega) hr he).mono fun _ _ h => UfGen.of_fail he herr h
    · exact (Unframe_head v x l' w hv hx).mono fun _ _ h => UfGen.of_fail (by omega) (by omega) h
end Go.Proofs.YtpcmonebihgjhaaDoor
