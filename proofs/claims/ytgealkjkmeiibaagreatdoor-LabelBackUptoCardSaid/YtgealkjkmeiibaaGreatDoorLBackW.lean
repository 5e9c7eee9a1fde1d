/-
  The walk of LabelBack: whatever the labels and the texts, the law returns true. Conditions: sizes as the theorem names; the tables of package utf8 and the errors of package strconv are in place.
-/
import Derived.Test.YtgealkjkmeiibaaGreatDoorKnow
import Derived.Test.YtgealkjkmeiibaaGreatDoorWrite
import Derived.Test.YtgealkjkmeiibaaGreatDoorLRead
import Derived.Test.YtgealkjkmeiibaaGreatDoorCmp
import Derived.Test.YtgealkjkmeiibaaGreatDoorMeant
import Derived.Test.YtgealkjkmeiibaaGreatDoorTBack
import Derived.Test.YtgealkjkmeiibaaGreatDoorLabMath
namespace Go.Proofs.YtgealkjkmeiibaaGreatDoor
open Go.RowKit Go.Icz

theorem sorted_same {l d : List Lab} (hr : rightS l = true) (hd : Sorts l d) : d = l := by
  simp only [rightS, Bool.and_eq_true] at hr
  have h1 := (chain_lt l none hr.2).2
  refine List.Perm.eq_of_pairwise (le := fun x y => ¬ Lib.compareBytes y.1 x.1 < 0) ?_ hd.2 ?_ hd.1
  · intro x y hx hy a b
    have hx' := hd.1.mem_iff.1 hx
    refine Classical.byContradiction fun hne => ?_
    obtain ⟨i, hi, rfl⟩ := List.getElem_of_mem hx'
    obtain ⟨j, hj, rfl⟩ := List.getElem_of_mem hy
    rcases Nat.lt_trichotomy i j with h | h | h
    · exact b (List.pairwise_iff_getElem.1 h1 i j hi hj h)
    · subst h; exact hne rfl
    · exact a (List.pairwise_iff_getElem.1 h1 j i hj hi h)
  · refine h1.imp fun {x y} h => ?_
    have := bytes_neg x.1 y.1
    omega
theorem valid_quote {l : B8} (h : Lib.validD l = true) : quoteS l ≠ [] := by
  unfold quoteS; rw [if_pos h]; simp
theorem no_quote {l : B8} (h : Lib.validD l = false) : quoteS l = [] := by
  unfold quoteS; rw [if_neg (by rw [h]; simp)]
theorem print_len {l : List Lab} (h : rightS l = true) : (printS l).length ≤ 1099511627776 := by
  obtain ⟨h1, h2⟩ := right_all h
  have hb : ∀ (bt : B8) (m : List Lab), bt.length ≤ 2 → (∀ x ∈ m, x.1.length ≤ 64 ∧ x.2.length ≤ 128) → (pbody bt m).length ≤ 900 * m.length := fun bt m hbt hm => by
    induction m generalizing bt with
    | nil => simp [pbody]
    | cons x t ih =>
      have hx := hm x (by simp)
      have hq := quoteS_len x.2
      have := ih [44, 32] (by simp) fun y hy => hm y (by simp [hy])
      simp only [pbody, List.length_append, List.length_cons, List.length_nil]
      omega
  have := hb [] l (by simp) h2
  unfold printS
  rw [if_pos h]
  simp only [List.length_append, List.length_cons, List.length_nil]
  omega
set_option maxHeartbeats 8000000 in
set_option maxRecDepth 100000 in
theorem LabelBack_walk (v0 : Value) (l : List Lab) (s more : ByteArray) (W : World) (h0 : RdL W v0 l) (hs : s.size ≤ 1048576) (hm : more.size ≤ 1048576) (hl : ∀ x ∈ l, x.1.length ≤ 1048576 ∧ x.2.length ≤ 1048576) (hT : Tabs W) :
    Calls Tryz.prog 5 #[v0, .string s, .string more] W fun e w' => e = .returned (.bool true) ∧ Below W.heap.size W w' := by
  have AQ := Quote_is s W (by omega) hT
  have hql := quoteS_len s.data.toList
  have hsl : s.data.toList.length = s.size := size_len s
  have AR := fun w (hb : Below W.heap.size W w) => Right_is v0 l w (h0.below hb) (hT.below hb) (fun x hx => by have := hl x hx; omega)
  have AP := fun w (hb : Below W.heap.size W w) => Print_is v0 l w (h0.below hb) (hT.below hb) (fun x hx => by have := hl x hx; omega)
  have HK := fun w (hb : Below W.heap.size W w) => knows_is w (hT.below hb)
  have AU : Lib.validD s.data.toList = true → ∀ w (hb : Below W.heap.size W w), Calls Tryz.prog 14 #[.string (⟨(quoteS s.data.toList).toArray⟩ ++ more)] w fun e w' => e = .returned (.tuple #[.string s, .int .i64 ((quoteS s.data.toList).length : Nat), .bool true]) ∧ Below w.heap.size w w' := fun hv w hb => by
    obtain ⟨_, hq⟩ := unquote_quote s.data.toList more.data.toList hv
    have e1 : ((⟨(quoteS s.data.toList).toArray⟩ : ByteArray) ++ more).data.toList = quoteS s.data.toList ++ more.data.toList := by simp
    have hsz : ((⟨(quoteS s.data.toList).toArray⟩ : ByteArray) ++ more).size ≤ 8388608 := by rw [ByteArray.size_append, Lib.size_mk]; omega
    refine (Unquote_is _ w (by omega) (hT.below hb) (fun t w1 _ ht hTw => meant_is t (by omega) w1 hTw)).mono ?_
    unfold Unq
    rw [e1, hq]
    simp only [mk_data]
    exact fun e w' h => h
  have APa : rightS l = true → ∀ w (hb : Below W.heap.size W w), Calls Tryz.prog 20 #[.string ⟨(printS l).toArray⟩] w fun e w' => ∃ v, e = .returned (.tuple #[v, .int .i64 0]) ∧ RdL w' v l ∧ Below w.heap.size w w' := fun hr w hb => by
    have hpl := print_len hr
    refine (Parse_is (printS l) w hpl (hT.below hb) (fun t w1 _ ht hTw => meant_is t (by omega) w1 hTw)).mono ?_
    unfold ParseOut
    rw [parse_print hr]
    rintro e w' ⟨⟨h16, _⟩ | ⟨d, hd, ⟨_, v, he, hv⟩ | ⟨hn, _⟩⟩, hb'⟩
    · have := (right_all hr).1; omega
    · rw [sorted_same hr hd] at hv
      exact ⟨v, he, hv, hb'⟩
    · rw [sorted_same hr hd, hr] at hn; cases hn
  have ABy : rightS l = true → ∀ w (hb : Below W.heap.size W w), Calls Tryz.prog 27 #[v0] w (Made w (bytesN l)) := fun hr w hb => Bytes_is v0 l w (h0.below hb) (hT.below hb) hr
  have hlb : rightS l = true → l.length ≤ 16 := fun hr => (right_lens hr).1
  have ARd : rightS l = true → ∀ v w (hb : Below W.heap.size W w) (hv : Rd w v (bytesN l)), Calls Tryz.prog 28 #[v] w fun e w' => ∃ u, e = .returned (.tuple #[u, .int .i64 0]) ∧ OwnL w' w.heap.size u l ∧ Below w.heap.size w w' := fun hr v w hb hv => by
    refine (LRead_own v (bytesN l) w hv (bytesN_lt l) (by have := bytesN_len hr; omega) (hT.below hb)).mono ?_
    rintro e w' ⟨u, he, ho, hb'⟩
    rw [readS_bytes hr] at he ho
    exact ⟨u, he, ho, hb'⟩
  have ASa : rightS l = true → ∀ v w (hb : Below W.heap.size W w) (hv : RdL w v l), Calls Tryz.prog 24 #[v, v0] w fun e w' => e = .returned (.bool true) ∧ Below w.heap.size w w' := fun hr v w hb hv => by
    refine (Same_is v v0 l l w hv (h0.below hb) (by have := hlb hr; omega)).mono ?_
    rintro e w' ⟨he, hb'⟩
    rw [decide_eq_true rfl] at he
    exact ⟨he, hb'⟩
  have t1 := True.intro
  have t2 := True.intro
  clear hl
  cases hv : Lib.validD s.data.toList with
  | true =>
    replace AU := AU hv
    have hne := valid_quote hv
    generalize quoteS s.data.toList = q at AQ AU hne hql
    obtain ⟨c, u, rfl⟩ := List.exists_cons_of_ne_nil hne
    have hadd : ¬ 9223372036854775807 < u.length + 1 + more.size := by rw [List.length_cons] at hql; omega
    clear hv hne h0 hql
    cases hr : rightS l with
    | false =>
      have hp : printS l = [] := by unfold printS; rw [hr]; rfl
      rw [hr] at AR
      rw [hp] at AP
      clear APa ABy ARd ASa hlb hp hr
      go_enter Tryz.func5, Tryz.ntmps5
      go_wp2_with (first
        | (go_at_call 16; refine AQ.mono ?_; rintro e w1 ⟨rfl, b1⟩; have cB := b1; clear AQ)
        | (go_at_call 14; refine (AU _ cB).mono ?_; rintro e w2 ⟨rfl, b2⟩; replace cB := cB.trans (b2.mono cB.size); clear AU)
        | (go_at_call 26; refine (AR _ cB).mono ?_; rintro e wr ⟨rfl, br⟩; replace cB := cB.trans (br.mono cB.size))
        | (go_at_call 22; refine (AP _ cB).mono ?_; rintro e wp ⟨rfl, bp⟩; replace cB := cB.trans (bp.mono cB.size))
        | (go_at_call 18; refine (HK _ cB).mono ?_; rintro e wk ⟨rfl, bk⟩; replace cB := cB.trans (bk.mono cB.size)))
      go_ret
      exact ⟨rfl, cB⟩
    | true =>
      replace APa := APa hr
      replace ABy := ABy hr
      replace ARd := ARd hr
      replace ASa := ASa hr
      rw [hr] at AR
      clear hlb hr
      generalize printS l = pp at AP APa
      unfold Made at ABy
      go_enter Tryz.func5, Tryz.ntmps5
      go_wp2_with (first
        | (go_at_call 16; refine AQ.mono ?_; rintro e w1 ⟨rfl, b1⟩; have cB := b1; clear AQ)
        | (go_at_call 14; refine (AU _ cB).mono ?_; rintro e w2 ⟨rfl, b2⟩; replace cB := cB.trans (b2.mono cB.size); clear AU)
        | (go_at_call 26; refine (AR _ cB).mono ?_; rintro e wr ⟨rfl, br⟩; replace cB := cB.trans (br.mono cB.size))
        | (go_at_call 22; refine (AP _ cB).mono ?_; rintro e wp ⟨rfl, bp⟩; replace cB := cB.trans (bp.mono cB.size))
        | (go_at_call 20; refine (APa _ cB).mono ?_; rintro e w3 ⟨va, rfl, ra, b3⟩; have cP := cB; replace cB := cB.trans (b3.mono cB.size); clear APa AP)
        | (go_at_call 27; refine (ABy _ cB).mono ?_; rintro e w4 ⟨vb, rfl, ob, b4⟩; replace cB := cB.trans (b4.mono cB.size); replace ra := ra.below b4; clear ABy)
        | (go_at_call 28; refine (ARd _ _ cB ob.rd).mono ?_; rintro e w5 ⟨vc, rfl, oc, b5⟩; replace cB := cB.trans (b5.mono cB.size); replace ra := ra.below b5; have rc := oc.rd; clear ARd oc ob)
        | (go_at_call 25; refine (num_is _ _).mono ?_; rintro e w9 ⟨rfl, rfl⟩)
        | (clear t1; go_at_call 24; refine (ASa _ _ cB ra).mono ?_; rintro e w6 ⟨rfl, b6⟩; replace cB := cB.trans (b6.mono cB.size); replace rc := rc.below b6; clear ra)
        | (clear t2; go_at_call 24; refine (ASa _ _ cB rc).mono ?_; rintro e w7 ⟨rfl, b7⟩; replace cB := cB.trans (b7.mono cB.size); clear rc)
        | (go_at_call 18; refine (HK _ cB).mono ?_; rintro e wk ⟨rfl, bk⟩; replace cB := cB.trans (bk.mono cB.size)))
      go_ret
      exact ⟨rfl, cB⟩
  | false =>
    have hq := no_quote hv
    rw [hq] at AQ
    clear AU hq hql hv h0
    cases hr : rightS l with
    | false =>
      have hp : printS l = [] := by unfold printS; rw [hr]; rfl
      rw [hr] at AR
      rw [hp] at AP
      clear APa ABy ARd ASa hlb hp hr
      go_enter Tryz.func5, Tryz.ntmps5
      go_wp2_with (first
        | (go_at_call 16; refine AQ.mono ?_; rintro e w1 ⟨rfl, b1⟩; have cB := b1; clear AQ)
        | (go_at_call 26; refine (AR _ cB).mono ?_; rintro e wr ⟨rfl, br⟩; replace cB := cB.trans (br.mono cB.size))
        | (go_at_call 22; refine (AP _ cB).mono ?_; rintro e wp ⟨rfl, bp⟩; replace cB := cB.trans (bp.mono cB.size))
        | (go_at_call 18; refine (HK _ cB).mono ?_; rintro e wk ⟨rfl, bk⟩; replace cB := cB.trans (bk.mono cB.size)))
      go_ret
      exact ⟨rfl, cB⟩
    | true =>
      replace APa := APa hr
      replace ABy := ABy hr
      replace ARd := ARd hr
      replace ASa := ASa hr
      rw [hr] at AR
      clear hlb hr
      generalize printS l = pp at AP APa
      unfold Made at ABy
      go_enter Tryz.func5, Tryz.ntmps5
      go_wp2_with (first
        | (go_at_call 16; refine AQ.mono ?_; rintro e w1 ⟨rfl, b1⟩; have cB := b1; clear AQ)
        | (go_at_call 26; refine (AR _ cB).mono ?_; rintro e wr ⟨rfl, br⟩; replace cB := cB.trans (br.mono cB.size))
        | (go_at_call 22; refine (AP _ cB).mono ?_; rintro e wp ⟨rfl, bp⟩; replace cB := cB.trans (bp.mono cB.size))
        | (go_at_call 20; refine (APa _ cB).mono ?_; rintro e w3 ⟨va, rfl, ra, b3⟩; have cP := cB; replace cB := cB.trans (b3.mono cB.size); clear APa AP)
        | (go_at_call 27; refine (ABy _ cB).mono ?_; rintro e w4 ⟨vb, rfl, ob, b4⟩; replace cB := cB.trans (b4.mono cB.size); replace ra := ra.below b4; clear ABy)
        | (go_at_call 28; refine (ARd _ _ cB ob.rd).mono ?_; rintro e w5 ⟨vc, rfl, oc, b5⟩; replace cB := cB.trans (b5.mono cB.size); replace ra := ra.below b5; have rc := oc.rd; clear ARd oc ob)
        | (go_at_call 25; refine (num_is _ _).mono ?_; rintro e w9 ⟨rfl, rfl⟩)
        | (clear t1; go_at_call 24; refine (ASa _ _ cB ra).mono ?_; rintro e w6 ⟨rfl, b6⟩; replace cB := cB.trans (b6.mono cB.size); replace rc := rc.below b6; clear ra)
        | (clear t2; go_at_call 24; refine (ASa _ _ cB rc).mono ?_; rintro e w7 ⟨rfl, b7⟩; replace cB := cB.trans (b7.mono cB.size); clear rc)
        | (go_at_call 18; refine (HK _ cB).mono ?_; rintro e wk ⟨rfl, bk⟩; replace cB := cB.trans (bk.mono cB.size)))
      go_ret
      exact ⟨rfl, cB⟩
end Go.Proofs.YtgealkjkmeiibaaGreatDoor
