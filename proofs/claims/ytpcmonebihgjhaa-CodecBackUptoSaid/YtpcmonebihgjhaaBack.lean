/-
  Proved: icehouselaw01.CodecBack answers true for every []int and []string that are together of bulk at most 1048576 (Rows.CodecBackUptoSaid). No other condition.
-/
import Derived.Test.YtpcmonebihgjhaaRows
import Derived.Test.YtpcmonebihgjhaaDec
import Derived.Deep.RegionHeld3
import Derived.JoinedCond
import Derived.SliceStrings
namespace Go.Proofs.Ytpcmonebihgjhaa.codecBack
open Go.ChangeShapes Go.WideShapes Go.ChangeAt Go.RowKit Go.Icy

/-- The slice v holds the cells xs. -/
def RdC (w : World) (v : Value) (xs : List Value) : Prop :=
  ∃ A c, v = .slice A xs.length c ∧ (0 < xs.length → ∃ b off, A = some ⟨b, off, none⟩ ∧ b < w.heap.size ∧ ∀ j (hj : j < xs.length), w.cell? ⟨b, off + j, none⟩ = some xs[j])

/-- What is written of the place i, and of so many places from k on. -/
def pieceL (l : List Int) (i : Nat) : List Nat := if h : i < l.length then num (zig l[i]) else []
def pieceM (m : List ByteArray) (i : Nat) : List Nat := if h : i < m.length then txt m[i] else []
def suf (l : List Int) (m : List ByteArray) : Nat → Nat → List Nat
  | 0, _ => []
  | j + 1, k => pieceL l k ++ (pieceM m k ++ suf l m j (k + 1))
theorem pieceL_yes {l : List Int} {i : Nat} (h : i < l.length) : pieceL l i = num (zig l[i]) := dif_pos h
theorem pieceL_no {l : List Int} {i : Nat} (h : ¬ i < l.length) : pieceL l i = [] := dif_neg h
theorem pieceM_yes {m : List ByteArray} {i : Nat} (h : i < m.length) : pieceM m i = txt m[i] := dif_pos h
theorem pieceM_no {m : List ByteArray} {i : Nat} (h : ¬ i < m.length) : pieceM m i = [] := dif_neg h
def Good (l : List Int) (m : List ByteArray) (i : Nat) : Prop :=
  (∀ h : i < l.length, -36028797018963968 ≤ l[i] ∧ l[i] < 36028797018963968) ∧ (∀ h : i < m.length, m[i].size ≤ 65536)
theorem suf_lt (l : List Int) (m : List ByteArray) : ∀ j k, ∀ c ∈ suf l m j k, c < 256
  | 0, _, c, h => by simp [suf] at h
  | j + 1, k, c, h => by
    simp only [suf, List.mem_append] at h
    rcases h with h | h | h
    · unfold pieceL at h
      split at h
      · exact num_lt _ c h
      · simp at h
    · unfold pieceM at h
      split at h
      · rcases List.mem_append.1 h with h | h
        · exact num_lt _ c h
        · exact nats_lt _ c h
      · simp at h
    · exact suf_lt l m j (k + 1) c h
theorem txt_len {s : ByteArray} (h : s.size ≤ 65536) : (txt s).length ≤ 65544 := by
  have h8 := num_len8 (n := s.size) (by omega)
  simp [txt, nats_len]
  omega
theorem suf_len (l : List Int) (m : List ByteArray) : ∀ j k, (∀ i, k ≤ i → i < k + j → Good l m i) → (suf l m j k).length ≤ j * 65552
  | 0, _, _ => by simp [suf]
  | j + 1, k, hg => by
    have h1 := suf_len l m j (k + 1) (fun i h1 h2 => hg i (by omega) (by omega))
    obtain ⟨g1, g2⟩ := hg k (by omega) (by omega)
    have hL : (pieceL l k).length ≤ 8 := by
      unfold pieceL
      split
      · rename_i h
        exact num_len8 (zig_lt (g1 h).1 (g1 h).2)
      · simp
    have hM : (pieceM m k).length ≤ 65544 := by
      unfold pieceM
      split
      · rename_i h
        exact txt_len (g2 h)
      · simp
    simp only [suf, List.length_append]
    omega

/-- The first loop's relation. -/
def Wrote1 (l : List Int) (m : List ByteArray) (N : Nat) (w : World) (v i : Value) (wr : World) : Prop :=
  ∃ (k : Nat) (acc : List Nat), i = .int .i64 k ∧ k ≤ N ∧ Own wr w.heap.size v acc ∧ acc ++ suf l m (N - k) k = suf l m N 0 ∧ acc.length ≤ k * 65552 ∧ (∀ i, i < k → Good l m i) ∧ Below w.heap.size w wr
theorem step1 {l : List Int} {m : List ByteArray} {N k : Nat} {acc : List Nat} (hk : k < N) (h : acc ++ suf l m (N - k) k = suf l m N 0) : (acc ++ (pieceL l k ++ pieceM m k)) ++ suf l m (N - (k + 1)) (k + 1) = suf l m N 0 := by
  rw [← h]
  obtain ⟨j, hj⟩ : ∃ j, N - k = j + 1 := ⟨N - k - 1, by omega⟩
  rw [hj, show N - (k + 1) = j by omega, suf]
  simp [List.append_assoc]
theorem good_step {l : List Int} {m : List ByteArray} {k : Nat} (h : ∀ i, i < k → Good l m i) (hk : Good l m k) : ∀ i, i < k + 1 → Good l m i := fun i hi => by
  rcases Nat.lt_or_ge i k with h1 | h1
  · exact h i h1
  · obtain rfl : i = k := by omega
    exact hk

/-- Take number i first: its temporary is told. -/
theorem takeAt {P : Program} {ops : Array Oper} {Q : Exit → Act → World → Prop} {md : Region.Mode} {S : World → Prop} {i : Nat} {d : Tmp} {oi : Oper} {v : Value} {fuel : Nat} {listed : Array Bool} {a : Act} {w : World} (hi : ops[i]? = some oi) (hd : oi.dst = some d)
    (hs : Region.noSelect ops = true) (hf : Region.free md ops listed i = true) (hr : (Region.ready md ops listed).contains i = true)
    (hQ : ∀ c a w, Q (.panic c) (a.put oi.dst v) w → Q (.panic c) a w) (hy : YieldsIf P ops S oi v a) (hS : S w)
    (h : wpAnyH P md ops Q S fuel (listed.setIfInBounds i true) { tmps := a.tmps.setIfInBounds d v, defers := a.defers } w) : wpAnyH P md ops Q S (fuel + 1) listed a w := by
  refine wpAnyH_take hi hs hf hr hQ hy hS ?_
  rw [hd]
  exact h

/-- The second loop's relation. -/
def Read2 (l : List Int) (m : List ByteArray) (N : Nat) (w : World) (g : Nat) (i : Value) (wr : World) : Prop :=
  ∃ k : Nat, i = .int .i64 k ∧ k ≤ N ∧ DecAt wr g (suf l m (N - k) k) ∧ Below w.heap.size w wr
/-- It answers x; the bytes l are left; below block B nothing has turned. -/
def TookB (B : Nat) (w : World) (g : Nat) (x : Value) (l : List Nat) (e : Ending) (w' : World) : Prop := e = .returned x ∧ DecAt w' g l ∧ Below B w w'
theorem Took.below {w : World} {g : Nat} {x : Value} {l : List Nat} {e : Ending} {w' : World} (h : Took w g x l e w') {B : Nat} (hB : B ≤ g) : TookB B w g x l e w' := by
  obtain ⟨v', rfl, rfl, hd⟩ := h
  exact ⟨rfl, hd, (Below.refl B w).setCell (p := ⟨g, 1, none⟩) hB v'⟩
theorem step2 {l : List Int} {m : List ByteArray} {N k : Nat} (hk : k < N) : suf l m (N - k) k = pieceL l k ++ (pieceM m k ++ suf l m (N - (k + 1)) (k + 1)) := by
  obtain ⟨j, hj⟩ : ∃ j, N - k = j + 1 := ⟨N - k - 1, by omega⟩
  rw [hj, show N - (k + 1) = j by omega, suf]
theorem drew_below {B : Nat} {w w' : World} (h : Below B w.drew w') : Below B w w' := ⟨h.os, h.tape, h.output, h.size, h.block⟩

set_option maxRecDepth 100000 in
set_option maxHeartbeats 4000000 in
theorem walk (v u : Value) (l : List Int) (m : List ByteArray) (w : World) (hv : RdC w v (l.map (Value.int .i64))) (hu : RdC w u (m.map Value.string)) (hl : l.length ≤ 1048576) (hm : m.length ≤ 1048576) (hs : ∀ s ∈ m, s.size ≤ 9223372036854775807) :
    Calls Try.prog 5 #[v, u] w (Knew w) := by
  obtain ⟨A, c, rfl, hA⟩ := hv
  obtain ⟨A2, c2, rfl, hA2⟩ := hu
  simp only [List.length_map] at hA hA2 ⊢
  have HA := hid hA
  have HA2 := hid hA2
  have HS := hid hs
  clear hA hA2 hs
  obtain ⟨N, hN⟩ : ∃ N, N = max l.length m.length := ⟨_, rfl⟩
  have hN1 : l.length ≤ N := by omega
  have hN2 : m.length ≤ N := by omega
  have hN3 : N ≤ 1048576 := by omega
  have HN := hid hN
  clear hN
  go_enter Try.func5, Try.ntmps5
  go_wp2_with fail
  go_loopw [5, 6] (fun v i wr => Wrote1 l m N w v i wr) (fun _ i _ => N - (intOf i).toNat)
  case atStart => exact ⟨0, [], rfl, Nat.zero_le _, Own.nil _ _, rfl, by simp, fun i hi => absurd hi (by omega), Below.refl _ _⟩
  case round =>
    obtain ⟨k, acc, rfl, hk, hown, hacc, hal, hgood, hbel⟩ := hrel
    have HACC := hid hacc
    have HG := hid hgood
    have hsz := hbel.size
    clear hacc hgood
    have hal2 : acc.length ≤ 68736253952 := by omega
    by_cases hkl : k < l.length
    · obtain ⟨b, off, rfl, hb, hcl⟩ := HA.out (by omega)
      have hx : wr.cell? ⟨b, off + k, none⟩ = some (.int .i64 l[k]) := (hbel.cell (p := ⟨b, off + k, none⟩) hb).trans (by rw [hcl k hkl]; simp)
      have HP := hid (pieceL_yes hkl)
      have HGX := hid (show (-36028797018963968 ≤ l[k] ∧ l[k] < 36028797018963968) → ∀ h : k < l.length, -36028797018963968 ≤ l[k] ∧ l[k] < 36028797018963968 from fun h _ => h)
      clear hcl
      generalize l[k] = x at *
      by_cases hr : -36028797018963968 ≤ x ∧ x < 36028797018963968
      · have hn8 := num_len8 (zig_lt hr.1 hr.2)
        have HGX2 := hid (HGX.out hr)
        have HR := hid hr
        have hr1 := hr.1
        have hr2 := hr.2
        clear hr
        by_cases hkm : k < m.length
        · obtain ⟨b', off', rfl, hb', hcm⟩ := HA2.out (by omega)
          have HCM := hid (hcm k (by simpa using hkm))
          have HQ := hid (pieceM_yes hkm)
          have HGS := hid (show m[k].size ≤ 65536 → ∀ h : k < m.length, m[k].size ≤ 65536 from fun h _ => h)
          have HSZ := HS.out m[k] (List.getElem_mem hkm)
          simp only [List.getElem_map] at HCM
          clear hcm
          generalize m[k] = t at *
          by_cases ht : t.size ≤ 65536
          · have htl := txt_len ht
            go_wp2_with (first
              | (go_at_call 8; refine (Signed_yes _ _ hr1 hr2).mono ?_; rintro e w1 ⟨v1, rfl, o1, b1⟩; have b1' : Below w.heap.size wr w1 := b1.mono hsz; have hs1 := b1.size; have ho1 := hown.below b1; clear hown)
              | (go_at_call 10; refine (num_any _ _).mono ?_; rintro e w' ⟨rfl, rfl⟩)
              | (at_builtin; refine wp_appR std rfl (.tmp 41) (.tmp 42) rfl w.heap.size _ _ acc (num (zig x)) rfl ho1 rfl o1.rd ?_ ?_ ?_; (focus omega); (focus omega); intro v2 w2 o2 b2; have bb2 := (hbel.trans b1').trans b2; have hs2 := b2.size; have hm2 := (bb2.cell (p := ⟨b', off' + k, none⟩) hb').trans HCM.out; clear ho1 o1 b1)
              | (go_at_call 18; refine (Text_yes _ _ ht).mono ?_; rintro e w3 ⟨v3, rfl, o3, b3⟩; have b3' : Below w.heap.size w2 w3 := b3.mono bb2.size; have hs3 := b3.size; have ho3 := o2.below b3; clear o2)
              | (at_builtin; refine wp_appR std rfl (.tmp 60) (.tmp 61) rfl w.heap.size _ _ (acc ++ num (zig x)) (txt t) rfl ho3 rfl o3.rd ?_ ?_ ?_; (focus (rw [List.length_append]; omega)); (focus omega); intro v4 w4 o4 b4; have bb4 := (bb2.trans b3').trans b4; clear ho3 o3 b3))
            go_roundw
            case rel =>
              refine ⟨k + 1, _, by go_num, by omega, o4, ?_, ?_, good_step HG.out ⟨HGX2.out, HGS.out ht⟩, bb4⟩
              · have h := step1 (show k < N by omega) HACC.out
                rw [HP.out, HQ.out, ← List.append_assoc] at h
                exact h
              · simp only [List.length_append]
                omega
            case measure => simp [intOf]; omega
          · go_wp2_with (first
              | (go_at_call 8; refine (Signed_yes _ _ hr1 hr2).mono ?_; rintro e w1 ⟨v1, rfl, o1, b1⟩; have b1' : Below w.heap.size wr w1 := b1.mono hsz; have hs1 := b1.size; have ho1 := hown.below b1; clear hown)
              | (go_at_call 10; refine (num_any _ _).mono ?_; rintro e w' ⟨rfl, rfl⟩)
              | (at_builtin; refine wp_appR std rfl (.tmp 41) (.tmp 42) rfl w.heap.size _ _ acc (num (zig x)) rfl ho1 rfl o1.rd ?_ ?_ ?_; (focus omega); (focus omega); intro v2 w2 o2 b2; have bb2 := (hbel.trans b1').trans b2; have hs2 := b2.size; have hm2 := (bb2.cell (p := ⟨b', off' + k, none⟩) hb').trans HCM.out; clear ho1 o1 b1)
              | (go_at_call 18; refine (Text_no _ _ (by omega)).mono ?_; rintro e w3 ⟨rfl, rfl⟩)
              | (go_at_call 11; refine (knows_any _).mono ?_; rintro e w4 ⟨rfl, hb4⟩))
            go_ret
            exact ⟨rfl, bb2.trans (hb4.mono bb2.size)⟩
        · have HQ := hid (pieceM_no hkm)
          have HGS := hid (show ∀ h : k < m.length, m[k].size ≤ 65536 from fun h => absurd h hkm)
          have hd : decide (k < m.length) = false := decide_eq_false hkm
          go_wp2_with (first
            | (go_at_call 8; refine (Signed_yes _ _ hr1 hr2).mono ?_; rintro e w1 ⟨v1, rfl, o1, b1⟩; have b1' : Below w.heap.size wr w1 := b1.mono hsz; have hs1 := b1.size; have ho1 := hown.below b1; clear hown)
            | (go_at_call 10; refine (num_any _ _).mono ?_; rintro e w' ⟨rfl, rfl⟩)
            | (at_builtin; refine wp_appR std rfl (.tmp 41) (.tmp 42) rfl w.heap.size _ _ acc (num (zig x)) rfl ho1 rfl o1.rd ?_ ?_ ?_; (focus omega); (focus omega); intro v2 w2 o2 b2; have bb2 := (hbel.trans b1').trans b2; have hs2 := b2.size; clear ho1 o1 b1))
          go_roundw
          case rel =>
            refine ⟨k + 1, _, by go_num, by omega, o2, ?_, ?_, good_step HG.out ⟨HGX2.out, HGS.out⟩, bb2⟩
            · have h := step1 (show k < N by omega) HACC.out
              rw [HP.out, HQ.out, List.append_nil] at h
              exact h
            · simp only [List.length_append]
              omega
          case measure => simp [intOf]; omega
      · have hrn : x < -36028797018963968 ∨ 36028797018963968 ≤ x := by omega
        have HR := hid hrn
        clear hr hrn
        go_wp2_with (first
          | (go_at_call 8; refine (Signed_no _ _ HR.out).mono ?_; rintro e w' ⟨rfl, rfl⟩)
          | (go_at_call 10; refine (num_any _ _).mono ?_; rintro e w' ⟨rfl, rfl⟩)
          | (go_at_call 11; refine (knows_any _).mono ?_; rintro e w2 ⟨rfl, hb2⟩))
        go_ret
        exact ⟨rfl, hbel.trans (hb2.mono hbel.size)⟩
    · have HP := hid (pieceL_no hkl)
      have HGX2 := hid (show ∀ h : k < l.length, -36028797018963968 ≤ l[k] ∧ l[k] < 36028797018963968 from fun h => absurd h hkl)
      have hdl : decide (k < l.length) = false := decide_eq_false hkl
      by_cases hkm : k < m.length
      · obtain ⟨b', off', rfl, hb', hcm⟩ := HA2.out (by omega)
        have hm2 : wr.cell? ⟨b', off' + k, none⟩ = some (.string m[k]) := (hbel.cell (p := ⟨b', off' + k, none⟩) hb').trans (by rw [hcm k (by simpa using hkm)]; simp)
        have HQ := hid (pieceM_yes hkm)
        have HGS := hid (show m[k].size ≤ 65536 → ∀ h : k < m.length, m[k].size ≤ 65536 from fun h _ => h)
        have HSZ := HS.out m[k] (List.getElem_mem hkm)
        clear hcm
        generalize m[k] = t at *
        by_cases ht : t.size ≤ 65536
        · have htl := txt_len ht
          go_wp2_with (first
            | (go_at_call 10; refine (num_any _ _).mono ?_; rintro e w' ⟨rfl, rfl⟩)
            | (go_at_call 18; refine (Text_yes _ _ ht).mono ?_; rintro e w3 ⟨v3, rfl, o3, b3⟩; have b3' : Below w.heap.size wr w3 := b3.mono hsz; have hs3 := b3.size; have ho3 := hown.below b3; clear hown)
            | (at_builtin; refine wp_appR std rfl (.tmp 60) (.tmp 61) rfl w.heap.size _ _ acc (txt t) rfl ho3 rfl o3.rd ?_ ?_ ?_; (focus omega); (focus omega); intro v4 w4 o4 b4; have bb4 := (hbel.trans b3').trans b4; clear ho3 o3 b3))
          go_roundw
          case rel =>
            refine ⟨k + 1, _, by go_num, by omega, o4, ?_, ?_, good_step HG.out ⟨HGX2.out, HGS.out ht⟩, bb4⟩
            · have h := step1 (show k < N by omega) HACC.out
              rw [HP.out, HQ.out, List.nil_append] at h
              exact h
            · simp only [List.length_append]
              omega
          case measure => simp [intOf]; omega
        · go_wp2_with (first
            | (go_at_call 10; refine (num_any _ _).mono ?_; rintro e w' ⟨rfl, rfl⟩)
            | (go_at_call 18; refine (Text_no _ _ (by omega)).mono ?_; rintro e w3 ⟨rfl, rfl⟩)
            | (go_at_call 11; refine (knows_any _).mono ?_; rintro e w4 ⟨rfl, hb4⟩))
          go_ret
          exact ⟨rfl, hbel.trans (hb4.mono hbel.size)⟩
      · have hdm : decide (k < m.length) = false := decide_eq_false hkm
        obtain rfl : k = N := by have := HN.out; omega
        have hT : acc = suf l m k 0 := by
          have h := HACC.out
          rw [Nat.sub_self, suf, List.append_nil] at h
          exact h
        subst hT
        have HLEN := hid (fun j q (h : q + j ≤ k) => suf_len l m j q (fun i h1 h2 => HG.out i (by omega)))
        go_wp2_with (go_at_call 19; refine (New_any _ (suf l m k 0) _ hown.rd (by omega)).mono ?_; rintro e w1 ⟨g, rfl, hg, hd, hb1⟩)
        have hb1w := hbel.trans (hb1.mono hsz)
        have hgw : w.heap.size ≤ g := by omega
        clear hown hbel hb1
        go_loopw [12] (fun i wq => Read2 l m k w g i wq) (fun i _ => k - (intOf i).toNat)
        case atStart => exact ⟨0, rfl, Nat.zero_le _, hd, hb1w⟩
        case round =>
          clear hd hb1w
          obtain ⟨q, rfl, hq, hdq, hbq⟩ := hrel
          have hRl := HLEN.out (k - (q + 1)) (q + 1)
          have hR8 := suf_lt l m (k - (q + 1)) (q + 1)
          obtain ⟨R, hRe⟩ : ∃ R, suf l m (k - (q + 1)) (q + 1) = R := ⟨_, rfl⟩
          have hst := fun h : q < k => step2 (l := l) (m := m) h
          rw [hRe] at hRl hR8 hst
          have HRE := hid hRe
          clear hRe
          by_cases hql : q < l.length
          · obtain ⟨b, off, rfl, hb, hcl⟩ := HA.out (by omega)
            have hx : wr.drew.cell? ⟨b, off + q, none⟩ = some (.int .i64 l[q]) := (hbq.cell (p := ⟨b, off + q, none⟩) hb).trans (by rw [hcl q (by simpa using hql)]; simp)
            have hgx := (HG.out q (by omega)).1 hql
            have hzl := num_len8 (zig_lt hgx.1 hgx.2)
            rw [hst (by omega), pieceL_yes hql] at hdq
            have hRl' := hRl (by omega)
            have hq1 : (q : Int) < (l.length : Int) := by omega
            clear hcl hst
            generalize l[q] = x at *
            have HGX := hid hgx
            by_cases hqm : q < m.length
            · obtain ⟨b', off', rfl, hb', hcm⟩ := HA2.out (by omega)
              have hm : wr.drew.cell? ⟨b', off' + q, none⟩ = some (.string m[q]) := (hbq.cell (p := ⟨b', off' + q, none⟩) hb').trans (by rw [hcm q (by simpa using hqm)]; simp)
              have hgt := (HG.out q (by omega)).2 hqm
              have htl := txt_len hgt
              rw [pieceM_yes hqm] at hdq
              have hq2 : (q : Int) < (m.length : Int) := by omega
              clear hcm
              generalize m[q] = t at *
              have D1 := hid (show DecAt wr.drew g (num (zig x) ++ (txt t ++ R)) from hdq)
              have HR8 := hid (show ∀ c ∈ txt t ++ R, c < 256 from fun c hc => by
                rcases List.mem_append.1 hc with h | h
                · rcases List.mem_append.1 h with h | h
                  · exact num_lt _ c h
                  · exact nats_lt _ c h
                · exact hR8 c h)
              have HR8' := hid hR8
              have hl1 : (num (zig x) ++ (txt t ++ R)).length ≤ 4611686018427387904 := by simp only [List.length_append]; omega
              have hl2 : (txt t ++ R).length ≤ 4611686018427387904 := by simp only [List.length_append]; omega
              clear hdq hRl hR8 hgx
              go_wp2_with fail
              go_region_held3 (fun w' => w'.cell? ⟨b, off + q, none⟩ = some (.int .i64 x) ∧ w'.cell? ⟨b', off' + q, none⟩ = some (.string t)) (first | exact ⟨hx, hm⟩ | exact ⟨hx2, hm2⟩ | exact ⟨hx3, hm3⟩ | go_keep) (first
                | (go_at_call 13; refine ((Signed_dec x (txt t ++ R) g _ HGX.out.1 HGX.out.2 HR8.out hl1 D1.out).mono fun _ _ h => Took.below h hgw).mono ?_; rintro e w2 ⟨rfl, d2, bw2⟩; have hx2 := (bw2.cell (p := ⟨b, off + q, none⟩) hb).trans hx; have hm2 := (bw2.cell (p := ⟨b', off' + q, none⟩) hb').trans hm)
                | (go_at_call 15; refine ((Text_dec t R g _ hgt HR8'.out hl2 d2).mono fun _ _ h => Took.below h hgw).mono ?_; rintro e w3 ⟨rfl, d3, bw3⟩; have hx3 := (bw3.cell (p := ⟨b, off + q, none⟩) hb).trans hx2; have hm3 := (bw3.cell (p := ⟨b', off' + q, none⟩) hb').trans hm2))
              go_wp2
              go_roundw
              case rel => exact ⟨q + 1, by go_num, by omega, by rw [HRE.out]; exact d3, (hbq.trans (drew_below bw2)).trans bw3⟩
              case measure => simp [intOf]; omega
            · rw [pieceM_no hqm, List.nil_append] at hdq
              have hqd : decide (q < m.length) = false := decide_eq_false hqm
              have hqd' : decide ((q : Int) < (m.length : Int)) = false := decide_eq_false (by omega)
              have D1 := hid (show DecAt wr.drew g (num (zig x) ++ R) from hdq)
              have HR8' := hid hR8
              have hl1 : (num (zig x) ++ R).length ≤ 4611686018427387904 := by simp only [List.length_append]; omega
              clear hdq hRl hR8 hgx
              go_wp2_with fail
              refine wp_region_held_drew (S := fun w' => w'.cell? ⟨b, off + q, none⟩ = some (.int .i64 x)) (by kernel_rfl) hx (fun hHeld => ?_)
              refine takeAt (i := 0) (d := 77) (v := .int .i64 q) rfl rfl (by kernel_rfl) (by kernel_rfl) (by kernel_rfl) (fun _ _ _ h => h) (Or.inl ⟨by rfl, fun w hSw => by go_simp⟩) hHeld ?_
              simp only [List.setIfInBounds_toArray, List.set_cons_zero, List.set_cons_succ]
              refine takeAt (i := 1) (d := 78) (v := .slice (some ⟨b, off, none⟩) l.length c) rfl rfl (by kernel_rfl) (by kernel_rfl) (by kernel_rfl) (fun _ _ _ h => h) (Or.inl ⟨by rfl, fun w hSw => by go_simp⟩) hHeld ?_
              simp only [List.setIfInBounds_toArray, List.set_cons_zero, List.set_cons_succ]
              refine takeAt (i := 2) (d := 79) (v := .int .i64 l.length) rfl rfl (by kernel_rfl) (by kernel_rfl) (by kernel_rfl) (fun _ _ _ h => h) (Or.inl ⟨by rfl, fun w hSw => by go_simp⟩) hHeld ?_
              simp only [List.setIfInBounds_toArray, List.set_cons_zero, List.set_cons_succ]
              refine takeAt (i := 3) (d := 80) (v := .bool true) rfl rfl (by kernel_rfl) (by kernel_rfl) (by kernel_rfl) (fun _ _ _ h => h) (Or.inl ⟨by rfl, fun w hSw => by go_simp⟩) hHeld ?_
              simp only [List.setIfInBounds_toArray, List.set_cons_zero, List.set_cons_succ]
              refine takeAt (i := 4) (d := 81) (v := .bool true) rfl rfl (by kernel_rfl) (by kernel_rfl) (by kernel_rfl) (fun _ _ _ h => h) (Or.inl ⟨by rfl, fun w hSw => by go_simp⟩) hHeld ?_
              simp only [List.setIfInBounds_toArray, List.set_cons_zero, List.set_cons_succ]
              refine takeAt (i := 5) (d := 82) (v := .pointer (some ⟨g, 0, none⟩)) rfl rfl (by kernel_rfl) (by kernel_rfl) (by kernel_rfl) (fun _ _ _ h => h) (Or.inl ⟨by rfl, fun w hSw => by go_simp⟩) hHeld ?_
              simp only [List.setIfInBounds_toArray, List.set_cons_zero, List.set_cons_succ]
              refine takeAt (i := 7) (d := 84) (v := .slice (some ⟨b, off, none⟩) l.length c) rfl rfl (by kernel_rfl) (by kernel_rfl) (by kernel_rfl) (fun _ _ _ h => h) (Or.inl ⟨by rfl, fun w hSw => by go_simp⟩) hHeld ?_
              simp only [List.setIfInBounds_toArray, List.set_cons_zero, List.set_cons_succ]
              refine takeAt (i := 8) (d := 85) (v := .int .i64 q) rfl rfl (by kernel_rfl) (by kernel_rfl) (by kernel_rfl) (fun _ _ _ h => h) (Or.inl ⟨by rfl, fun w hSw => by go_simp⟩) hHeld ?_
              simp only [List.setIfInBounds_toArray, List.set_cons_zero, List.set_cons_succ]
              refine takeAt (i := 9) (d := 86) (v := .pointer (some ⟨b, off + q, none⟩)) rfl rfl (by kernel_rfl) (by kernel_rfl) (by kernel_rfl) (fun _ _ _ h => h) (Or.inl ⟨by rfl, fun w hSw => by go_simp⟩) hHeld ?_
              simp only [List.setIfInBounds_toArray, List.set_cons_zero, List.set_cons_succ]
              refine takeAt (i := 10) (d := 87) (v := .int .i64 x) rfl rfl (by kernel_rfl) (by kernel_rfl) (by kernel_rfl) (fun _ _ _ h => h) (Or.inl ⟨by rfl, fun w hSw => by go_simp⟩) hHeld ?_
              simp only [List.setIfInBounds_toArray, List.set_cons_zero, List.set_cons_succ]
              refine wpAnyH_ready (rs := [6]) (by kernel_rfl) (by simp) ?_
              refine AllReadyH.cons (o := { dst := some 83, op := Op.call { callee := Callee.value (Operand.func 13), args := #[Operand.tmp 82], argTypes := #[31] }, type := 3, pos := "law.go:131", after := #[{ on := 5, ground := Ground.data }, { on := 4, ground := Ground.chain }, { on := 4, ground := Ground.guard }], guard := some (4, true) }) rfl (fun K hK => ?_) AllReadyH.nil
              rw [if_pos (by rfl)]
              go_simp
              refine ((Signed_dec x R g _ HGX.out.1 HGX.out.2 HR8'.out hl1 D1.out).mono fun _ _ h => Took.below h hgw).mono ?_
              rintro e w2 ⟨rfl, d2, bw2⟩
              refine hK.out _ _ ((bw2.cell (p := ⟨b, off + q, none⟩) hb).trans hx) (fun hHeld2 => ?_)
              clear hK K
              refine takeAt (i := 11) (d := 88) (v := .bool false) rfl rfl (by kernel_rfl) (by kernel_rfl) (by kernel_rfl) (fun _ _ _ h => h) (Or.inl ⟨by rfl, fun w hSw => by go_simp⟩) hHeld2 ?_
              simp only [List.setIfInBounds_toArray, List.set_cons_zero, List.set_cons_succ]
              refine takeAt (i := 12) (d := 89) (v := .bool false) rfl rfl (by kernel_rfl) (by kernel_rfl) (by kernel_rfl) (fun _ _ _ h => h) (Or.inl ⟨by rfl, fun w hSw => by go_simp⟩) hHeld2 ?_
              simp only [List.setIfInBounds_toArray, List.set_cons_zero, List.set_cons_succ]
              refine takeAt (i := 13) (d := 90) (v := .bool false) rfl rfl (by kernel_rfl) (by kernel_rfl) (by kernel_rfl) (fun _ _ _ h => h) (Or.inl ⟨by rfl, fun w hSw => by go_simp⟩) hHeld2 ?_
              simp only [List.setIfInBounds_toArray, List.set_cons_zero, List.set_cons_succ]
              refine takeAt (i := 14) (d := 91) (v := .int .i64 q) rfl rfl (by kernel_rfl) (by kernel_rfl) (by kernel_rfl) (fun _ _ _ h => h) (Or.inl ⟨by rfl, fun w hSw => by go_simp⟩) hHeld2 ?_
              simp only [List.setIfInBounds_toArray, List.set_cons_zero, List.set_cons_succ]
              refine takeAt (i := 15) (d := 92) (v := .slice A2 m.length c2) rfl rfl (by kernel_rfl) (by kernel_rfl) (by kernel_rfl) (fun _ _ _ h => h) (Or.inl ⟨by rfl, fun w hSw => by go_simp⟩) hHeld2 ?_
              simp only [List.setIfInBounds_toArray, List.set_cons_zero, List.set_cons_succ]
              refine takeAt (i := 16) (d := 93) (v := .int .i64 m.length) rfl rfl (by kernel_rfl) (by kernel_rfl) (by kernel_rfl) (fun _ _ _ h => h) (Or.inl ⟨by rfl, fun w hSw => by go_simp⟩) hHeld2 ?_
              simp only [List.setIfInBounds_toArray, List.set_cons_zero, List.set_cons_succ]
              refine takeAt (i := 17) (d := 94) (v := .bool false) rfl rfl (by kernel_rfl) (by kernel_rfl) (by kernel_rfl) (fun _ _ _ h => h) (Or.inl ⟨by rfl, fun w hSw => by go_simp⟩) hHeld2 ?_
              simp only [List.setIfInBounds_toArray, List.set_cons_zero, List.set_cons_succ]
              refine takeAt (i := 18) (d := 95) (v := .bool false) rfl rfl (by kernel_rfl) (by kernel_rfl) (by kernel_rfl) (fun _ _ _ h => h) (Or.inl ⟨by rfl, fun w hSw => by go_simp⟩) hHeld2 ?_
              simp only [List.setIfInBounds_toArray, List.set_cons_zero, List.set_cons_succ]
              refine takeAt (i := 19) (d := 96) (v := undef) rfl rfl (by kernel_rfl) (by kernel_rfl) (by kernel_rfl) (fun _ _ _ h => h) (Or.inr ⟨by rfl, rfl⟩) hHeld2 ?_
              simp only [List.setIfInBounds_toArray, List.set_cons_zero, List.set_cons_succ]
              refine takeAt (i := 20) (d := 97) (v := undef) rfl rfl (by kernel_rfl) (by kernel_rfl) (by kernel_rfl) (fun _ _ _ h => h) (Or.inr ⟨by rfl, rfl⟩) hHeld2 ?_
              simp only [List.setIfInBounds_toArray, List.set_cons_zero, List.set_cons_succ]
              refine takeAt (i := 21) (d := 98) (v := undef) rfl rfl (by kernel_rfl) (by kernel_rfl) (by kernel_rfl) (fun _ _ _ h => h) (Or.inr ⟨by rfl, rfl⟩) hHeld2 ?_
              simp only [List.setIfInBounds_toArray, List.set_cons_zero, List.set_cons_succ]
              refine takeAt (i := 22) (d := 99) (v := undef) rfl rfl (by kernel_rfl) (by kernel_rfl) (by kernel_rfl) (fun _ _ _ h => h) (Or.inr ⟨by rfl, rfl⟩) hHeld2 ?_
              simp only [List.setIfInBounds_toArray, List.set_cons_zero, List.set_cons_succ]
              refine takeAt (i := 23) (d := 100) (v := undef) rfl rfl (by kernel_rfl) (by kernel_rfl) (by kernel_rfl) (fun _ _ _ h => h) (Or.inr ⟨by rfl, rfl⟩) hHeld2 ?_
              simp only [List.setIfInBounds_toArray, List.set_cons_zero, List.set_cons_succ]
              refine takeAt (i := 24) (d := 101) (v := undef) rfl rfl (by kernel_rfl) (by kernel_rfl) (by kernel_rfl) (fun _ _ _ h => h) (Or.inr ⟨by rfl, rfl⟩) hHeld2 ?_
              simp only [List.setIfInBounds_toArray, List.set_cons_zero, List.set_cons_succ]
              refine takeAt (i := 25) (d := 102) (v := undef) rfl rfl (by kernel_rfl) (by kernel_rfl) (by kernel_rfl) (fun _ _ _ h => h) (Or.inr ⟨by rfl, rfl⟩) hHeld2 ?_
              simp only [List.setIfInBounds_toArray, List.set_cons_zero, List.set_cons_succ]
              refine takeAt (i := 26) (d := 103) (v := .bool false) rfl rfl (by kernel_rfl) (by kernel_rfl) (by kernel_rfl) (fun _ _ _ h => h) (Or.inl ⟨by rfl, fun w hSw => by go_simp⟩) hHeld2 ?_
              simp only [List.setIfInBounds_toArray, List.set_cons_zero, List.set_cons_succ]
              refine takeAt (i := 27) (d := 104) (v := .bool false) rfl rfl (by kernel_rfl) (by kernel_rfl) (by kernel_rfl) (fun _ _ _ h => h) (Or.inl ⟨by rfl, fun w hSw => by go_simp⟩) hHeld2 ?_
              simp only [List.setIfInBounds_toArray, List.set_cons_zero, List.set_cons_succ]
              refine wpAnyH_done (by kernel_rfl) ?_ _
              go_wp2
              go_roundw
              case rel => exact ⟨q + 1, by go_num, by omega, by rw [HRE.out]; exact d2, hbq.trans (drew_below bw2)⟩
              case measure => simp [intOf]; omega
          · have hqdl : decide (q < l.length) = false := decide_eq_false hql
            have hqdl' : decide ((q : Int) < (l.length : Int)) = false := decide_eq_false (by omega)
            by_cases hqm : q < m.length
            · obtain ⟨b', off', rfl, hb', hcm⟩ := HA2.out (by omega)
              have hm : wr.drew.cell? ⟨b', off' + q, none⟩ = some (.string m[q]) := (hbq.cell (p := ⟨b', off' + q, none⟩) hb').trans (by rw [hcm q (by simpa using hqm)]; simp)
              have hgt := (HG.out q (by omega)).2 hqm
              have htl := txt_len hgt
              rw [hst (by omega), pieceL_no hql, List.nil_append, pieceM_yes hqm] at hdq
              have hRl' := hRl (by omega)
              have hq2 : (q : Int) < (m.length : Int) := by omega
              clear hcm hst
              generalize m[q] = t at *
              have D1 := hid (show DecAt wr.drew g (txt t ++ R) from hdq)
              have HR8' := hid hR8
              have hl2 : (txt t ++ R).length ≤ 4611686018427387904 := by simp only [List.length_append]; omega
              clear hdq hRl hR8
              go_wp2_with fail
              refine wp_region_held_drew (S := fun w' => w'.cell? ⟨b', off' + q, none⟩ = some (.string t)) (by kernel_rfl) hm (fun hHeld => ?_)
              refine takeAt (i := 0) (d := 77) (v := .int .i64 q) rfl rfl (by kernel_rfl) (by kernel_rfl) (by kernel_rfl) (fun _ _ _ h => h) (Or.inl ⟨by rfl, fun w hSw => by go_simp⟩) hHeld ?_
              simp only [List.setIfInBounds_toArray, List.set_cons_zero, List.set_cons_succ]
              refine takeAt (i := 1) (d := 78) (v := .slice A l.length c) rfl rfl (by kernel_rfl) (by kernel_rfl) (by kernel_rfl) (fun _ _ _ h => h) (Or.inl ⟨by rfl, fun w hSw => by go_simp⟩) hHeld ?_
              simp only [List.setIfInBounds_toArray, List.set_cons_zero, List.set_cons_succ]
              refine takeAt (i := 2) (d := 79) (v := .int .i64 l.length) rfl rfl (by kernel_rfl) (by kernel_rfl) (by kernel_rfl) (fun _ _ _ h => h) (Or.inl ⟨by rfl, fun w hSw => by go_simp⟩) hHeld ?_
              simp only [List.setIfInBounds_toArray, List.set_cons_zero, List.set_cons_succ]
              refine takeAt (i := 3) (d := 80) (v := .bool false) rfl rfl (by kernel_rfl) (by kernel_rfl) (by kernel_rfl) (fun _ _ _ h => h) (Or.inl ⟨by rfl, fun w hSw => by go_simp⟩) hHeld ?_
              simp only [List.setIfInBounds_toArray, List.set_cons_zero, List.set_cons_succ]
              refine takeAt (i := 4) (d := 81) (v := .bool false) rfl rfl (by kernel_rfl) (by kernel_rfl) (by kernel_rfl) (fun _ _ _ h => h) (Or.inl ⟨by rfl, fun w hSw => by go_simp⟩) hHeld ?_
              simp only [List.setIfInBounds_toArray, List.set_cons_zero, List.set_cons_succ]
              refine takeAt (i := 5) (d := 82) (v := undef) rfl rfl (by kernel_rfl) (by kernel_rfl) (by kernel_rfl) (fun _ _ _ h => h) (Or.inr ⟨by rfl, rfl⟩) hHeld ?_
              simp only [List.setIfInBounds_toArray, List.set_cons_zero, List.set_cons_succ]
              refine takeAt (i := 6) (d := 83) (v := undef) rfl rfl (by kernel_rfl) (by kernel_rfl) (by kernel_rfl) (fun _ _ _ h => h) (Or.inr ⟨by rfl, rfl⟩) hHeld ?_
              simp only [List.setIfInBounds_toArray, List.set_cons_zero, List.set_cons_succ]
              refine takeAt (i := 7) (d := 84) (v := undef) rfl rfl (by kernel_rfl) (by kernel_rfl) (by kernel_rfl) (fun _ _ _ h => h) (Or.inr ⟨by rfl, rfl⟩) hHeld ?_
              simp only [List.setIfInBounds_toArray, List.set_cons_zero, List.set_cons_succ]
              refine takeAt (i := 8) (d := 85) (v := undef) rfl rfl (by kernel_rfl) (by kernel_rfl) (by kernel_rfl) (fun _ _ _ h => h) (Or.inr ⟨by rfl, rfl⟩) hHeld ?_
              simp only [List.setIfInBounds_toArray, List.set_cons_zero, List.set_cons_succ]
              refine takeAt (i := 9) (d := 86) (v := undef) rfl rfl (by kernel_rfl) (by kernel_rfl) (by kernel_rfl) (fun _ _ _ h => h) (Or.inr ⟨by rfl, rfl⟩) hHeld ?_
              simp only [List.setIfInBounds_toArray, List.set_cons_zero, List.set_cons_succ]
              refine takeAt (i := 10) (d := 87) (v := undef) rfl rfl (by kernel_rfl) (by kernel_rfl) (by kernel_rfl) (fun _ _ _ h => h) (Or.inr ⟨by rfl, rfl⟩) hHeld ?_
              simp only [List.setIfInBounds_toArray, List.set_cons_zero, List.set_cons_succ]
              refine takeAt (i := 11) (d := 88) (v := undef) rfl rfl (by kernel_rfl) (by kernel_rfl) (by kernel_rfl) (fun _ _ _ h => h) (Or.inr ⟨by rfl, rfl⟩) hHeld ?_
              simp only [List.setIfInBounds_toArray, List.set_cons_zero, List.set_cons_succ]
              refine takeAt (i := 12) (d := 89) (v := .bool false) rfl rfl (by kernel_rfl) (by kernel_rfl) (by kernel_rfl) (fun _ _ _ h => h) (Or.inl ⟨by rfl, fun w hSw => by go_simp⟩) hHeld ?_
              simp only [List.setIfInBounds_toArray, List.set_cons_zero, List.set_cons_succ]
              refine takeAt (i := 13) (d := 90) (v := .bool false) rfl rfl (by kernel_rfl) (by kernel_rfl) (by kernel_rfl) (fun _ _ _ h => h) (Or.inl ⟨by rfl, fun w hSw => by go_simp⟩) hHeld ?_
              simp only [List.setIfInBounds_toArray, List.set_cons_zero, List.set_cons_succ]
              refine takeAt (i := 14) (d := 91) (v := .int .i64 q) rfl rfl (by kernel_rfl) (by kernel_rfl) (by kernel_rfl) (fun _ _ _ h => h) (Or.inl ⟨by rfl, fun w hSw => by go_simp⟩) hHeld ?_
              simp only [List.setIfInBounds_toArray, List.set_cons_zero, List.set_cons_succ]
              refine takeAt (i := 15) (d := 92) (v := .slice (some ⟨b', off', none⟩) m.length c2) rfl rfl (by kernel_rfl) (by kernel_rfl) (by kernel_rfl) (fun _ _ _ h => h) (Or.inl ⟨by rfl, fun w hSw => by go_simp⟩) hHeld ?_
              simp only [List.setIfInBounds_toArray, List.set_cons_zero, List.set_cons_succ]
              refine takeAt (i := 16) (d := 93) (v := .int .i64 m.length) rfl rfl (by kernel_rfl) (by kernel_rfl) (by kernel_rfl) (fun _ _ _ h => h) (Or.inl ⟨by rfl, fun w hSw => by go_simp⟩) hHeld ?_
              simp only [List.setIfInBounds_toArray, List.set_cons_zero, List.set_cons_succ]
              refine takeAt (i := 17) (d := 94) (v := .bool true) rfl rfl (by kernel_rfl) (by kernel_rfl) (by kernel_rfl) (fun _ _ _ h => h) (Or.inl ⟨by rfl, fun w hSw => by go_simp⟩) hHeld ?_
              simp only [List.setIfInBounds_toArray, List.set_cons_zero, List.set_cons_succ]
              refine takeAt (i := 18) (d := 95) (v := .bool true) rfl rfl (by kernel_rfl) (by kernel_rfl) (by kernel_rfl) (fun _ _ _ h => h) (Or.inl ⟨by rfl, fun w hSw => by go_simp⟩) hHeld ?_
              simp only [List.setIfInBounds_toArray, List.set_cons_zero, List.set_cons_succ]
              refine takeAt (i := 19) (d := 96) (v := .pointer (some ⟨g, 0, none⟩)) rfl rfl (by kernel_rfl) (by kernel_rfl) (by kernel_rfl) (fun _ _ _ h => h) (Or.inl ⟨by rfl, fun w hSw => by go_simp⟩) hHeld ?_
              simp only [List.setIfInBounds_toArray, List.set_cons_zero, List.set_cons_succ]
              refine takeAt (i := 21) (d := 98) (v := .slice (some ⟨b', off', none⟩) m.length c2) rfl rfl (by kernel_rfl) (by kernel_rfl) (by kernel_rfl) (fun _ _ _ h => h) (Or.inl ⟨by rfl, fun w hSw => by go_simp⟩) hHeld ?_
              simp only [List.setIfInBounds_toArray, List.set_cons_zero, List.set_cons_succ]
              refine takeAt (i := 22) (d := 99) (v := .int .i64 q) rfl rfl (by kernel_rfl) (by kernel_rfl) (by kernel_rfl) (fun _ _ _ h => h) (Or.inl ⟨by rfl, fun w hSw => by go_simp⟩) hHeld ?_
              simp only [List.setIfInBounds_toArray, List.set_cons_zero, List.set_cons_succ]
              refine takeAt (i := 23) (d := 100) (v := .pointer (some ⟨b', off' + q, none⟩)) rfl rfl (by kernel_rfl) (by kernel_rfl) (by kernel_rfl) (fun _ _ _ h => h) (Or.inl ⟨by rfl, fun w hSw => by go_simp⟩) hHeld ?_
              simp only [List.setIfInBounds_toArray, List.set_cons_zero, List.set_cons_succ]
              refine takeAt (i := 24) (d := 101) (v := .string t) rfl rfl (by kernel_rfl) (by kernel_rfl) (by kernel_rfl) (fun _ _ _ h => h) (Or.inl ⟨by rfl, fun w hSw => by go_simp⟩) hHeld ?_
              simp only [List.setIfInBounds_toArray, List.set_cons_zero, List.set_cons_succ]
              refine wpAnyH_ready (rs := [20]) (by kernel_rfl) (by simp) ?_
              refine AllReadyH.cons (o := { dst := some 97, op := Op.call { callee := Callee.value (Operand.func 15), args := #[Operand.tmp 96], argTypes := #[31] }, type := 9, pos := "law.go:131", after := #[{ on := 19, ground := Ground.data }, { on := 18, ground := Ground.chain }, { on := 18, ground := Ground.guard }], guard := some (18, true) }) rfl (fun K hK => ?_) AllReadyH.nil
              rw [if_pos (by rfl)]
              go_simp
              refine ((Text_dec t R g _ hgt HR8'.out hl2 D1.out).mono fun _ _ h => Took.below h hgw).mono ?_
              rintro e w3 ⟨rfl, d3, bw3⟩
              refine hK.out _ _ ((bw3.cell (p := ⟨b', off' + q, none⟩) hb').trans hm) (fun hHeld2 => ?_)
              clear hK K
              refine takeAt (i := 25) (d := 102) (v := .bool false) rfl rfl (by kernel_rfl) (by kernel_rfl) (by kernel_rfl) (fun _ _ _ h => h) (Or.inl ⟨by rfl, fun w hSw => by go_simp⟩) hHeld2 ?_
              simp only [List.setIfInBounds_toArray, List.set_cons_zero, List.set_cons_succ]
              refine takeAt (i := 26) (d := 103) (v := .bool false) rfl rfl (by kernel_rfl) (by kernel_rfl) (by kernel_rfl) (fun _ _ _ h => h) (Or.inl ⟨by rfl, fun w hSw => by go_simp⟩) hHeld2 ?_
              simp only [List.setIfInBounds_toArray, List.set_cons_zero, List.set_cons_succ]
              refine takeAt (i := 27) (d := 104) (v := .bool false) rfl rfl (by kernel_rfl) (by kernel_rfl) (by kernel_rfl) (fun _ _ _ h => h) (Or.inl ⟨by rfl, fun w hSw => by go_simp⟩) hHeld2 ?_
              simp only [List.setIfInBounds_toArray, List.set_cons_zero, List.set_cons_succ]
              refine wpAnyH_done (by kernel_rfl) ?_ _
              go_wp2
              go_roundw
              case rel => exact ⟨q + 1, by go_num, by omega, by rw [HRE.out]; exact d3, hbq.trans (drew_below bw3)⟩
              case measure => simp [intOf]; omega
            · have hqdm : decide (q < m.length) = false := decide_eq_false hqm
              obtain rfl : q = k := by have := HN.out; omega
              rw [Nat.sub_self, suf] at hdq
              have D1 := hid hdq
              clear hdq hst hRl hR8
              go_wp2_with (first
                | (go_at_call 17; refine (Done_dec _ _ D1.out).mono ?_; rintro e w' ⟨rfl, rfl⟩)
                | (go_at_call 10; refine (num_any _ _).mono ?_; rintro e w' ⟨rfl, rfl⟩)
                | (go_at_call 11; refine (knows_any _).mono ?_; rintro e w4 ⟨rfl, hb4⟩))
              go_ret
              exact ⟨rfl, hbq.trans (hb4.mono hbq.size)⟩

/-! What the bound on the bulk gives: so many elements at the most. -/
theorem bulk_pos {H : Type} (d : DataW H) : 1 ≤ Rows.uptoBulk d := by
  cases d with
  | lit q => cases q <;> simp [Rows.uptoBulk]
  | _ => simp [Rows.uptoBulk]
theorem bulk_len {H : Type} : ∀ ds : List (DataW H), ds.length ≤ Rows.uptoBulkAll ds
  | [] => by simp [Rows.uptoBulkAll]
  | d :: ds => by
    have h1 := bulk_pos d
    have h2 := bulk_len ds
    simp only [Rows.uptoBulkAll, List.length_cons]
    omega
theorem bulk_slice {H : Type} (el sp : List (DataW H)) : el.length ≤ Rows.uptoBulk (.slice el sp) := by
  have h := bulk_len el
  simp only [Rows.uptoBulk]
  omega

theorem own : ownKnob Try.prog.godebug = none := by kernel_rfl
theorem laidOut : laidOutB Try.prog = true := by kernel_rfl
theorem cells3 : Try.prog.cellsOf 3 = 1 := by kernel_rfl
theorem cells9 : Try.prog.cellsOf 9 = 1 := by kernel_rfl
/-- A []int that came in. -/
theorem open_l {H : Type} {enc : TypeId × Value → H} {W : World} {held : Bool} {a : Option Addr} {len cap : Nat} {d : DataW H} {p : List MemPlace} (h : DataW.Trod enc Try.prog W 0 (fun _ => true) held 37 (.slice a len cap) d p) :
    ∃ l : List Int, RdC W (.slice a len cap) (l.map (Value.int .i64)) ∧ (l = [] ∨ ∃ el sp, d = .slice el sp ∧ el.length = l.length) := by
  obtain ⟨fuel, hf⟩ := h
  rcases open_ints Try.underlying37 Try.underlying3 cells3 hf with ⟨hcs, hx⟩ | ⟨x, n, c, zs, hcs, _, hl, hm, hz, hx, hcell, hwz⟩
  · simp [Value.cells] at hcs
    obtain ⟨rfl, rfl, rfl⟩ := hcs
    exact ⟨[], ⟨none, 0, rfl, fun h => absurd h (by simp)⟩, .inl rfl⟩
  · simp [Value.cells] at hcs
    obtain ⟨rfl, rfl, rfl⟩ := hcs
    simp only [Prod.mk.injEq] at hx
    simp only [if_true] at hz
    have hlen : (zs.take len).length = len := by simp; omega
    refine ⟨zs.take len, ⟨some x, cap, by rw [List.length_map, hlen], fun h0 => ?_⟩, .inr ⟨_, _, hx.1, by simp [lits]⟩⟩
    rw [List.length_map, hlen] at h0
    obtain ⟨b, off, rfl, hc'⟩ := ints_at hcell (by omega)
    refine ⟨b, off, rfl, World.block_lt_of_cell? W ⟨b, off + 0, none⟩ (hc' 0 (by omega)), fun j hj => ?_⟩
    rw [List.length_map, hlen] at hj
    rw [hc' j (by omega)]
    simp [List.getElem?_eq_getElem (show j < zs.length by omega)]
/-- A []string that came in. -/
theorem open_m {H : Type} {enc : TypeId × Value → H} {W : World} {held : Bool} {a : Option Addr} {len cap : Nat} {d : DataW H} {p : List MemPlace} (h : DataW.Trod enc Try.prog W 0 (fun _ => true) held 38 (.slice a len cap) d p) :
    ∃ m : List ByteArray, RdC W (.slice a len cap) (m.map Value.string) ∧ (∀ s ∈ m, s.size ≤ 9223372036854775807) ∧ (m = [] ∨ ∃ el sp, d = .slice el sp ∧ el.length = m.length) := by
  obtain ⟨fuel, hf⟩ := h
  rcases open_strings Try.underlying38 Try.underlying9 cells9 hf with ⟨hcs, hx⟩ | ⟨x, n, c, zs, hcs, _, hl, hm, hz, hx, hcell, hwz⟩
  · simp [Value.cells] at hcs
    obtain ⟨rfl, rfl, rfl⟩ := hcs
    exact ⟨[], ⟨none, 0, rfl, fun h => absurd h (by simp)⟩, by simp, .inl rfl⟩
  · simp [Value.cells] at hcs
    obtain ⟨rfl, rfl, rfl⟩ := hcs
    simp only [Prod.mk.injEq] at hx
    simp only [if_true] at hz
    have hlen : (zs.take len).length = len := by simp; omega
    refine ⟨zs.take len, ⟨some x, cap, by rw [List.length_map, hlen], fun h0 => ?_⟩, fun s hs => ?_, .inr ⟨_, _, hx.1, by simp [strs]⟩⟩
    · rw [List.length_map, hlen] at h0
      obtain ⟨b, off, spot⟩ := x
      have hspot : spot = none := by simpa [Addr.add] using World.cell?_spot (hcell 0 (by omega))
      subst hspot
      have hc' : ∀ j, j < zs.length → W.cell? ⟨b, off + j, none⟩ = some (.string (zs.getD j ByteArray.empty)) := fun j hj => by rw [← add_flat]; exact hcell j hj
      refine ⟨b, off, rfl, World.block_lt_of_cell? W ⟨b, off + 0, none⟩ (hc' 0 (by omega)), fun j hj => ?_⟩
      rw [List.length_map, hlen] at hj
      rw [hc' j (by omega)]
      simp [List.getElem?_eq_getElem (show j < zs.length by omega)]
    · have := hwz s (List.mem_of_mem_take hs)
      unfold maxLen at this
      omega

theorem contract (H : Type) (enc : TypeId × Value → H) (W : World) (base : Nat) (args : Array Value) (ds gs : List (DataW H)) (before : List MemPlace)
    (hval : ∀ (j : Nat) t v, Try.f5.params[j]? = some t → args[j]? = some v → Value.okWide Try.prog W .any base t v)
    (hW : DataW.Whole enc Try.prog Try.f5.params.toList Rows.codecBackSpec.vars false W args.toList ds gs before) (hk : Rows.uptoSmall H (ds ++ gs) = true) :
    Calls Try.prog 5 args W fun e W' => ∃ v, e = .returned v ∧ Rows.codecBackSpec.post enc Try.prog Try.f5 false true false false W args v W' := by
  have hW' := hW
  obtain ⟨p, q, hA0, hV, rfl, hfz, hnd⟩ := hW
  have hA : DataW.TrodAll enc Try.prog W 0 (fun _ => true) true Try.f5.params.toList args.toList ds p := hA0
  rw [Try.params5] at hA hval
  obtain ⟨v0, vs0, d0, ds0, p0, q0, hargs, rfl, rfl, h0, r0⟩ := trodAll_cons hA
  obtain ⟨v1, vs1, d1, ds1, p1, q1, rfl, rfl, rfl, h1, r1⟩ := trodAll_cons r0
  obtain ⟨rfl, rfl, rfl⟩ := trodAll_nil r1
  obtain rfl : args = #[v0, v1] := by cases args; simp_all
  obtain ⟨rfl, rfl⟩ := trodVars_none hV
  obtain ⟨a0, len0, cap0, rfl⟩ := okWide_slice Try.underlying37 (hval 0 37 v0 rfl rfl)
  obtain ⟨a1, len1, cap1, rfl⟩ := okWide_slice Try.underlying38 (hval 1 38 v1 rfl rfl)
  have lt0 : ∀ x ∈ p0, x.block < W.heap.size := by
    obtain ⟨m, hm⟩ := h0
    exact DataW.trod_lt m _ _ _ hm
  have lt1 : ∀ x ∈ p1, x.block < W.heap.size := by
    obtain ⟨m, hm⟩ := h1
    exact DataW.trod_lt m _ _ _ hm
  obtain ⟨l, hl, hdl⟩ := open_l h0
  obtain ⟨m, hm, hms, hdm⟩ := open_m h1
  have hbulk : Rows.uptoBulk d0 + Rows.uptoBulk d1 ≤ 1048576 := by
    have h : Rows.uptoBulkAll ([d0, d1] ++ []) ≤ 1048576 := of_decide_eq_true hk
    simp only [List.append_nil, Rows.uptoBulkAll] at h
    omega
  have hl1 : l.length ≤ 1048576 := by
    rcases hdl with rfl | ⟨el, sp, rfl, he⟩
    · simp
    · have := bulk_slice el sp
      omega
  have hm1 : m.length ≤ 1048576 := by
    rcases hdm with rfl | ⟨el, sp, rfl, he⟩
    · simp
    · have := bulk_slice el sp
      omega
  clear hA0
  refine (walk _ _ l m W hl hm hl1 hm1 hms).mono fun e W' ⟨he, bel⟩ => ?_
  subst he
  exact ⟨_, rfl, _, _, _, [], _, [], hW', trodAll_mk1 (shut_bool Try.underlying4 _), (trodAll_cons_mk (Below.trod laidOut (by kernel_rfl) (of_decide_eq_true (by kernel_rfl)) h0 bel lt0) (trodAll_cons_mk (Below.trod laidOut (by kernel_rfl) (of_decide_eq_true (by kernel_rfl)) h1 bel lt1) trodAll_mk0)), rfl, bel.frame _, fun h => by cases h⟩

set_option maxRecDepth 100000 in
theorem lifted (os : Os) (started : os.Started) (H : Type) (enc : TypeId × Value → H) (F : Stop.Interp) :
    ReturnsInHanded {} Try.checked os 5 .any ((Rows.OpenSpec.upto Rows.codecBackSpec).pre6 enc Try.prog Try.f5 Rows.codecBackUptoRow.domain false) (((Rows.OpenSpec.upto Rows.codecBackSpec).at F).post enc Try.prog Try.f5 false true false false) := by
  refine returnsInHanded_of_cond (C := Try.checked) (s := Rows.OpenSpec.upto Rows.codecBackSpec) (k := Rows.uptoSmall) rfl own started (by kernel_rfl) Try.func5
    (OpenSpec.witness (enc := enc) (C := Try.checked) (s := Rows.OpenSpec.upto Rows.codecBackSpec) (k := Rows.uptoSmall) rfl false ⟨#[], #[.slice none 0 0, .slice none 0 0], []⟩ 8 (by kernel_rfl) (by kernel_rfl) (by kernel_rfl)
      (x := ([.nil, .nil], [], [])) (by kernel_rfl) rfl (by kernel_rfl)) ?_
  intro W base args ds gs before hval hW _ hk _
  exact contract H enc W base args ds gs before hval hW hk

theorem over : Rows.codecBackUptoRow.holds Try.pinned (Rows.OpenSpec.upto Rows.codecBackSpec) :=
  OpenClaim.holds_of_cond 5 Try.f5 rfl rfl rfl rfl rfl rfl rfl ⟨rfl, rfl, rfl, rfl, rfl⟩ rfl rfl rfl rfl rfl (by kernel_rfl) Try.func5 (by kernel_rfl)
    (of_decide_eq_true (by kernel_rfl)) (by unfold Func.isWrapper; first | (rw [if_pos (by decide +kernel)]; kernel_rfl) | (rw [if_neg (by decide +kernel)]; exact ⟨rfl, rfl⟩))
    (fun os started H enc _ F => lifted os started H enc F)

/-- THE STATEMENT. -/
theorem proved : Rows.CodecBackUptoSaid := over
end Go.Proofs.Ytpcmonebihgjhaa.codecBack
