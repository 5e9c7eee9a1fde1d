/-
  The reference's runes and signs of a pattern. Conditions: sizes.
-/
import Derived.Test.YtlhodanpfpfodaaGreatDoorMKno
import Derived.Test.YtlhodanpfpfodaaGreatDoorRune
namespace Go.Proofs.YtlhodanpfpfodaaGreatDoor
open Go.RowKit Go.Icz
def KI : Kd Nat := { e := 3, z := 1, enc := fun r => [.int .i64 (r : Int)], len := fun _ => rfl, pos := by decide, one := fun r u hu => (by rw [List.mem_singleton] at hu; rw [hu]; rfl) }
theorem infoInt : (Tryz.prog.info? KI.e).map (fun i => (i.zero, i.size, i.bytes)) = some (some (.int .i64 0), KI.z, 8) := by kernel_rfl
def tokV : Gl.Tok → List Value
  | .bar => [.int .i64 3, .int .i64 0]
  | .sg .any => [.int .i64 1, .int .i64 0]
  | .sg .one => [.int .i64 2, .int .i64 0]
  | .sg (.lit r) => [.int .i64 0, .int .i64 (r : Int)]
def KT : Kd Gl.Tok := { e := 97, z := 2, enc := tokV, len := fun t => (match t with | .bar => rfl | .sg .any => rfl | .sg .one => rfl | .sg (.lit _) => rfl), pos := by decide, one := fun t u hu => (by
    rcases t with g | _
    · rcases g with _ | _ | r <;>
      · simp only [tokV, List.mem_cons, List.not_mem_nil, or_false] at hu
        rcases hu with h | h <;> rw [h] <;> rfl
    · simp only [tokV, List.mem_cons, List.not_mem_nil, or_false] at hu
      rcases hu with h | h <;> rw [h] <;> rfl) }
theorem infoTok : (Tryz.prog.info? KT.e).map (fun i => (i.zero, i.size, i.bytes)) = some (some (.agg #[.int .i64 0, .int .i64 0]), KT.z, 16) := by kernel_rfl
theorem KI_at {w : World} {A : Option Addr} {n c : Nat} {l : List Nat} (h : KI.Rd w (.slice A n c) l) {j : Nat} (hj : j < l.length) : ∃ b off, A = some ⟨b, off, none⟩ ∧ b < w.heap.size ∧ w.cell? ⟨b, off + j, none⟩ = some (.int .i64 ((l[j]'hj : Nat) : Int)) := by
  obtain ⟨b, off, hA, hb, hc⟩ := h.at hj
  have := hc 0 _ (by decide) rfl
  exact ⟨b, off, hA, hb, by have e : j * KI.z + 0 = j := by (show j * 1 + 0 = j; omega)
                            rw [e] at this; exact this⟩
def strLen (v : Value) : Nat := match v with | .string b => b.size | _ => 0
/-- What the reference's Rune tells of a text, and what counts of it. -/
theorem rune_fix (l : B8) (h : l ≠ []) : ((runeN ⟨l.toArray⟩).2 = 0 ∧ Lib.decodeL l = (65533, 1)) ∨ ((runeN ⟨l.toArray⟩).2 ≠ 0 ∧ runeN ⟨l.toArray⟩ = Lib.decodeL l) := by
  have hp : 0 < (⟨l.toArray⟩ : ByteArray).size := by rw [Lib.size_mk]; exact List.length_pos_iff.2 h
  rcases rune_decode ⟨l.toArray⟩ hp with ⟨h1, h2⟩ | ⟨h1, h2⟩
  · exact .inl ⟨by rw [h2], h1⟩
  · refine .inr ⟨?_, h2⟩
    rw [h2]
    have := Lib.width_pos ⟨l.toArray⟩ 0
    omega
set_option maxHeartbeats 4000000 in
set_option maxRecDepth 100000 in
theorem runes_is (s : ByteArray) (w : World) (hs : s.size ≤ 1048576) :
    Calls Tryz.prog 52 #[.string s] w fun e w' => ∃ v, e = .returned v ∧ KI.Own w' w.heap.size v (runesS s.data.toList) ∧ Below w.heap.size w w' := by
  go_enter Tryz.func52, Tryz.ntmps52
  go_wp2_with fail
  go_loopw [0, 3] (fun sv ov wr => ∃ (rest : B8) (done : List Nat), sv = .string ⟨rest.toArray⟩ ∧ Hid (runesS s.data.toList = done ++ runesS rest) ∧ KI.Own wr w.heap.size ov done ∧ done.length + rest.length ≤ s.size ∧ Below w.heap.size w wr) (fun sv _ _ => strLen sv)
  case atStart => exact ⟨s.data.toList, [], by rw [mk_data], hid rfl, Kd.Own.nil _ _, by rw [size_len]; simp, Below.refl _ _⟩
  case round =>
    obtain ⟨rest, done, rfl, HX, hown, hlen, hbw⟩ := hrel
    by_cases hne : rest = []
    · subst hne
      have HE : Hid (runesS s.data.toList = done) := hid (by rw [HX.out]; show done ++ [] = done; simp)
      clear HX
      go_wp2_with fail
      go_ret
      exact ⟨_, rfl, by rw [HE.out]; exact hown, hbw⟩
    · have hp : 0 < rest.length := List.length_pos_iff.2 hne
      have hst := runesS_step rest hne
      have hdl := Lib.decodeL_le rest hne
      have hw1 := Lib.decodeL_width rest
      have hRu := fun w1 => Rune_is ⟨rest.toArray⟩ w1 (by rw [Lib.size_mk]; omega)
      have hwz := hbw.size
      have hex : ∀ k, k ≤ rest.length → (⟨rest.toArray⟩ : ByteArray).extract k rest.length = ⟨(rest.drop k).toArray⟩ := fun k hk => by
        apply ByteArray.ext
        simp [ByteArray.data_extract]
        rw [List.take_of_length_le (by simp)]
      rcases rune_fix rest hne with ⟨f1, f2⟩ | ⟨f1, f2⟩
      · rw [f2] at hst hdl hw1
        have HX2 : Hid (runesS s.data.toList = (done ++ [65533]) ++ runesS (rest.drop 1)) := hid (by rw [HX.out, hst]; simp)
        have he1 := hex 1 hp
        have hdr : (rest.drop 1).length = rest.length - 1 := List.length_drop
        rw [f1] at hRu
        generalize (runeN ⟨rest.toArray⟩).1 = c0 at *
        clear hst hdl hw1 f1 f2 HX hex
        go_wp2_with (first
          | (go_at_call 90; refine (hRu _).mono ?_; rintro e w2 ⟨rfl, rfl⟩; clear hRu)
          | (at_builtin; refine Kd.wp_app1 (K := KI) rfl (.tmp 16) (.tmp 18) 94 rfl Tryz.underlying94 infoInt rfl w.heap.size u3 done (65533 : Nat) rfl hown rfl rfl rfl (by unfold maxLen; omega) (by omega) hwz ?_; intro v4 w4 o4 b4 g4 _))
        go_roundw
        case rel => exact ⟨rest.drop 1, done ++ [65533], by simp, HX2, o4, by rw [List.length_append, hdr]; simp; omega, hbw.trans b4⟩
        case measure => simp [strLen, Lib.size_mk]; omega
      · rw [f2] at hRu
        have HX2 : Hid (runesS s.data.toList = (done ++ [(Lib.decodeL rest).1]) ++ runesS (rest.drop (Lib.decodeL rest).2)) := hid (by rw [HX.out, hst]; simp)
        have he1 := hex (Lib.decodeL rest).2 hdl
        have hdr : (rest.drop (Lib.decodeL rest).2).length = rest.length - (Lib.decodeL rest).2 := List.length_drop
        clear hst f1 f2 HX hex
        generalize (Lib.decodeL rest).1 = c0 at *
        generalize (Lib.decodeL rest).2 = n0 at *
        have hn0 : ((n0 : Int) == 0) = false := by simp; omega
        go_wp2_with (first
          | (go_at_call 90; refine (hRu _).mono ?_; rintro e w2 ⟨rfl, rfl⟩; clear hRu)
          | (at_builtin; refine Kd.wp_app1 (K := KI) rfl (.tmp 16) (.tmp 18) 94 rfl Tryz.underlying94 infoInt rfl w.heap.size u3 done c0 rfl hown rfl rfl rfl (by unfold maxLen; omega) (by omega) hwz ?_; intro v4 w4 o4 b4 g4 _))
        go_roundw
        case rel => exact ⟨rest.drop n0, done ++ [c0], rfl, HX2, o4, by rw [List.length_append, hdr]; simp; omega, hbw.trans b4⟩
        case measure => simp [strLen, Lib.size_mk]; omega
end Go.Proofs.YtlhodanpfpfodaaGreatDoor
