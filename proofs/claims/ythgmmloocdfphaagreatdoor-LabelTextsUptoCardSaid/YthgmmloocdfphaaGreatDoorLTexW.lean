/-
  The walk of LabelTexts: whatever the labels and the text, the law returns true. Conditions: sizes as the theorem names; the tables of package utf8 and the errors of package strconv are in place.
-/
import Derived.Test.YthgmmloocdfphaaGreatDoorKnow
import Derived.Test.YthgmmloocdfphaaGreatDoorMeant
import Derived.Test.YthgmmloocdfphaaGreatDoorRParse
import Derived.Test.YthgmmloocdfphaaGreatDoorRPrint
import Derived.Test.YthgmmloocdfphaaGreatDoorInsert
import Derived.Test.YthgmmloocdfphaaGreatDoorRefCmp
namespace Go.Proofs.YthgmmloocdfphaaGreatDoor
open Go.RowKit Go.Icz
/-- What is read, sorted; none: an error. -/
def sortedS : Option (List Lab) → Option (List Lab)
  | some l => if l.length ≤ 16 ∧ rightS (insAll l) = true then some (insAll l) else none
  | none => none
def ParsedOut (o : Option (List Lab)) (w : World) (e : Ending) (w' : World) : Prop :=
  (match o with
    | some d => d.length ≤ 16 ∧ ∃ v, e = .returned (.tuple #[v, .int .i64 0]) ∧ RdL w' v d
    | none => e = .returned (.tuple #[.slice none 0 0, .int .i64 30])) ∧ Below w.heap.size w w'
theorem chain_names : ∀ (l : List Lab) (p : Option B8), chain p l = true → ∀ x ∈ l, nameS x.1 = true
  | [], _, _, x, hx => by simp at hx
  | y :: t, p, h, x, hx => by
    simp only [chain, Bool.and_eq_true] at h
    rcases List.mem_cons.1 hx with rfl | hx
    · exact h.1.1.1
    · exact chain_names t _ h.2 x hx
theorem right_names {l : List Lab} (h : rightS l = true) : ∀ x ∈ l, nameS x.1 = true := by
  simp only [rightS, Bool.and_eq_true] at h
  exact chain_names l none h.2
theorem right_le {d : List Lab} (h : rightS d = true) : d.length ≤ 16 := by
  simp only [rightS, Bool.and_eq_true, decide_eq_true_eq] at h
  omega
theorem parsed_of {o : Option (List Lab)} {w w' : World} {e : Ending} (h : ParseOut o w e w') : ParsedOut (sortedS o) w e w' := by
  obtain ⟨h, hb⟩ := h
  refine ⟨?_, hb⟩
  cases o with
  | none => exact h
  | some l =>
    have hi := insAll_sorts l
    have hn : ¬ (l.length ≤ 16 ∧ rightS (insAll l) = true) → sortedS (some l) = none := fun h => if_neg h
    rcases h with ⟨h16, he⟩ | ⟨d, hd, ⟨hr, v, he, hv⟩ | ⟨hr, he⟩⟩
    · rw [hn (by omega)]; exact he
    · have e1 : insAll l = d := sorted_one hr hd hi (List.Perm.refl _)
      have hl : l.length = d.length := hd.1.length_eq.symm
      have h2 := right_le hr
      have hp : sortedS (some l) = some d := by rw [← e1]; exact if_pos ⟨by omega, by rw [e1]; exact hr⟩
      rw [hp]
      exact ⟨h2, v, he, hv⟩
    · rw [hn (fun h => by
        have e1 : d = insAll l := sorted_one h.2 hi hd (List.Perm.refl _)
        rw [e1, h.2] at hr; cases hr)]
      exact he
/-- Both readings come to the same. -/
theorem both (s : B8) : sortedS (parseS s) = sortedS (rparseS s) := by
  cases hr : rparseS s with
  | some l => rw [(parse_from hr).1]
  | none =>
    cases hp : parseS s with
    | none => rfl
    | some l =>
      refine if_neg ?_
      rintro ⟨h16, hrt⟩
      have hi := insAll_sorts l
      have hal := right_names hrt
      have := parse_to hp (fun x hx => hal x (hi.1.mem_iff.2 hx)) h16
      rw [hr] at this
      cases this
set_option maxHeartbeats 8000000 in
set_option maxRecDepth 100000 in
theorem LabelTexts_walk (v0 : Value) (l : List Lab) (s : ByteArray) (W : World) (h0 : RdL W v0 l) (hs : s.size ≤ 1048576) (hm : l.length ≤ 1048576) (hl : ∀ x ∈ l, x.1.length ≤ 1048576 ∧ x.2.length ≤ 1048576) (hT : Tabs W) :
    Calls Tryz.prog 3 #[v0, .string s] W fun e w' => e = .returned (.bool true) ∧ Below W.heap.size W w' := by
  have hsl : s.data.toList.length = s.size := size_len s
  have AO := Own_is v0 l W h0 (by omega)
  have AP : ∀ w (hb : Below W.heap.size W w), Calls Tryz.prog 11 #[.string s] w (ParsedOut (sortedS (rparseS s.data.toList)) w) := fun w hb => by
    have h := Parse_is s.data.toList w (by omega) (hT.below hb) (fun t w1 _ ht hTw => meant_is t (by omega) w1 hTw)
    rw [mk_data] at h
    refine h.mono fun e w' h => ?_
    have := parsed_of h
    rwa [both] at this
  have AQ : ∀ w, Calls Tryz.prog 12 #[.string s] w (ParsedOut (sortedS (rparseS s.data.toList)) w) := fun w => (R2Parse_is s w (by omega)).mono fun e w' h => parsed_of h
  have APr := fun v w (hb : Below W.heap.size W w) (hv : RdL w v l) => Print_is v l w hv (hT.below hb) (fun x hx => by have := hl x hx; omega)
  have ARr := fun w (hb : Below W.heap.size W w) => R2Print_is v0 l w (h0.below hb) (by omega) hl
  have HK := fun w (hb : Below W.heap.size W w) => knows_is w (hT.below hb)
  have AS2 : ∀ v w (hb : Below W.heap.size W w) (hv : RdL w v l), Calls Tryz.prog 15 #[v, v0] w fun e w' => e = .returned (.bool true) ∧ Below w.heap.size w w' := fun v w hb hv => by
    refine (Same_is v v0 l l w hv (h0.below hb) (by omega)).mono ?_
    rintro e w' ⟨he, hb'⟩
    rw [decide_eq_true rfl] at he
    exact ⟨he, hb'⟩
  have AS1 : ∀ d va vb w (_ : d.length ≤ 16) (ha : RdL w va d) (hv : RdL w vb d), Calls Tryz.prog 15 #[va, vb] w fun e w' => e = .returned (.bool true) ∧ Below w.heap.size w w' := fun d va vb w hd ha hv => by
    refine (Same_is va vb d d w ha hv (by omega)).mono ?_
    rintro e w' ⟨he, hb'⟩
    rw [decide_eq_true rfl] at he
    exact ⟨he, hb'⟩
  have t1 := True.intro
  have t2 := True.intro
  clear hl hsl
  generalize sortedS (rparseS s.data.toList) = o at *
  generalize printS l = pp at *
  unfold ParsedOut at AP AQ
  cases o with
  | none =>
    clear AS1
    go_enter Tryz.func3, Tryz.ntmps3
    go_wp2_with (first
      | (go_at_call 10; refine AO.mono ?_; rintro e w1 ⟨x, rfl, rx, cB⟩; clear AO)
      | (go_at_call 11; refine (AP _ cB).mono ?_; rintro e w2 ⟨rfl, b2⟩; replace cB := cB.trans (b2.mono cB.size); replace rx := rx.below b2; clear AP)
      | (go_at_call 12; refine (AQ _).mono ?_; rintro e w3 ⟨rfl, b3⟩; replace cB := cB.trans (b3.mono cB.size); replace rx := rx.below b3; clear AQ)
      | (go_at_call 13; refine (APr _ _ cB rx).mono ?_; rintro e wp ⟨rfl, bp⟩; replace cB := cB.trans (bp.mono cB.size); replace rx := rx.below bp; clear APr)
      | (go_at_call 14; refine (ARr _ cB).mono ?_; rintro e wq ⟨rfl, bq⟩; replace cB := cB.trans (bq.mono cB.size); replace rx := rx.below bq; clear ARr)
      | (clear t1; go_at_call 15; refine (Same_is _ _ [] [] _ (RdL.nil _) (RdL.nil _) (by simp)).mono ?_; rintro e w4 ⟨h4, b4⟩; rw [decide_eq_true rfl] at h4; subst h4; replace cB := cB.trans (b4.mono cB.size); replace rx := rx.below b4)
      | (go_at_call 16; refine (num_is _ _).mono ?_; rintro e w9 ⟨rfl, rfl⟩)
      | (clear t2; go_at_call 15; refine (AS2 _ _ cB rx).mono ?_; rintro e w5 ⟨rfl, b5⟩; replace cB := cB.trans (b5.mono cB.size); clear rx AS2)
      | (go_at_call 17; refine (HK _ cB).mono ?_; rintro e wk ⟨rfl, bk⟩; replace cB := cB.trans (bk.mono cB.size)))
    go_ret
    exact ⟨rfl, cB⟩
  | some d =>
    go_enter Tryz.func3, Tryz.ntmps3
    go_wp2_with (first
      | (go_at_call 10; refine AO.mono ?_; rintro e w1 ⟨x, rfl, rx, cB⟩; clear AO)
      | (go_at_call 11; refine (AP _ cB).mono ?_; rintro e w2 ⟨⟨d16, va, rfl, ra⟩, b2⟩; replace cB := cB.trans (b2.mono cB.size); replace rx := rx.below b2; clear AP)
      | (go_at_call 12; refine (AQ _).mono ?_; rintro e w3 ⟨⟨_, vb, rfl, rb⟩, b3⟩; replace cB := cB.trans (b3.mono cB.size); replace rx := rx.below b3; replace ra := ra.below b3; clear AQ)
      | (go_at_call 13; refine (APr _ _ cB rx).mono ?_; rintro e wp ⟨rfl, bp⟩; replace cB := cB.trans (bp.mono cB.size); replace rx := rx.below bp; replace ra := ra.below bp; replace rb := rb.below bp; clear APr)
      | (go_at_call 14; refine (ARr _ cB).mono ?_; rintro e wq ⟨rfl, bq⟩; replace cB := cB.trans (bq.mono cB.size); replace rx := rx.below bq; replace ra := ra.below bq; replace rb := rb.below bq; clear ARr)
      | (clear t1; go_at_call 15; refine (AS1 d _ _ _ d16 ra rb).mono ?_; rintro e w4 ⟨rfl, b4⟩; replace cB := cB.trans (b4.mono cB.size); replace rx := rx.below b4; clear ra rb)
      | (go_at_call 16; refine (num_is _ _).mono ?_; rintro e w9 ⟨rfl, rfl⟩)
      | (clear t2; go_at_call 15; refine (AS2 _ _ cB rx).mono ?_; rintro e w5 ⟨rfl, b5⟩; replace cB := cB.trans (b5.mono cB.size); clear rx AS2)
      | (go_at_call 17; refine (HK _ cB).mono ?_; rintro e wk ⟨rfl, bk⟩; replace cB := cB.trans (bk.mono cB.size)))
    go_ret
    exact ⟨rfl, cB⟩
end Go.Proofs.YthgmmloocdfphaaGreatDoor
