/-
  The walk of MatcherTwo. Conditions: sizes; the program's tables are in place.
  MatcherTwo: whatever the name, the value and the labels, the law returns true. Conditions: those of the given statement (what is read is of bulk at most 1048576; the listed variables are as the program lays them).
-/
import Derived.Test.YtlhodanpfpfodaaGreatDoorMTwoM
import Derived.Test.YtlhodanpfpfodaaGreatDoorMTab
import Derived.Test.YtlhodanpfpfodaaGreatDoorBulk
namespace Go.Proofs.YtlhodanpfpfodaaGreatDoor
open Go.RowKit Go.Icz
/-- What the array holds when the first k - 1 ops were asked. -/
def arrF (f : Nat → Bool) (k : Nat) : Array Value := #[.bool false, .bool (decide (1 < k) && f 1), .bool (decide (2 < k) && f 2), .bool (decide (3 < k) && f 3), .bool (decide (4 < k) && f 4)]
theorem RdL_at {w : World} {A : Option Addr} {n c : Nat} {l : List Lab} (h : RdL w (.slice A n c) l) {j : Nat} (hj : j < l.length) :
    ∃ b off, A = some ⟨b, off, none⟩ ∧ b < w.heap.size ∧ w.cell? ⟨b, off + j * 2, none⟩ = some (.string ⟨(l[j]).1.toArray⟩) ∧ w.cell? ⟨b, off + j * 2 + 1, none⟩ = some (.string ⟨(l[j]).2.toArray⟩) := by
  obtain ⟨A', c', hv, hc, hr⟩ := h
  injection hv with e1 e2 e3
  subst e1 e2 e3
  obtain ⟨b, off, hA, hlt, hcell⟩ := hr (by omega)
  exact ⟨b, off, hA, hlt, (hcell j hj).1, (hcell j hj).2⟩
/-- Whether the signs so far are plain, or told not to be. -/
def PlOk (s : B8) (i : Nat) (pv : Value) : Prop := ∃ p : Bool, pv = .bool p ∧ (p = true → ∀ c ∈ s.take i, plainC c = true)
theorem PlOk.no (s : B8) (i : Nat) : PlOk s i (.bool false) := ⟨false, rfl, fun h => by cases h⟩
set_option maxHeartbeats 8000000 in
set_option maxRecDepth 100000 in
theorem MatcherTwo_walk (nm vl : ByteArray) (v2 : Value) (l : List Lab) (w : World) (h2 : RdL w v2 l) (hn : nm.size ≤ 1048576) (hv : vl.size ≤ 1048576) (hm : l.length ≤ 1048576) (hl : ∀ x ∈ l, x.1.length ≤ 1048576 ∧ x.2.length ≤ 1048576) (hT : TabsM w) (h9 : 9 ≤ w.heap.size) :
    Calls Tryz.prog 7 #[.string nm, .string vl, v2] w fun e w' => e = .returned (.bool true) ∧ Below w.heap.size w w' := by
  obtain ⟨A, c, rfl, hc⟩ := (show ∃ A c, v2 = .slice A l.length c ∧ l.length ≤ c by obtain ⟨A, c, h, h', _⟩ := h2; exact ⟨A, c, h, h'⟩)
  have hK := fun w1 (hb : Below w.heap.size w w1) => knows6_is w1 (hT.below hb) (Nat.le_trans h9 hb.size)
  have hL := fun (s : B8) w1 (hs : s.length ≤ 1048576) => Long_is vl ⟨s.toArray⟩ w1 (by omega) (by rw [Lib.size_mk]; omega)
  have hg : ∀ n : B8, (getS n l).1.length ≤ 1048576 := fun n => getS_len 1048576 n l fun x hx => (hl x hx).2
  have hmk : ∀ s : ByteArray, (⟨s.data.toList.toArray⟩ : ByteArray) = s := mk_data
  have hF := fun (op : Nat) (v0 : Value) w1 (h0 : KM.Rd w1 v0 [⟨nm.data.toList, (op : Int), vl.data.toList⟩]) (hb : Below w.heap.size w w1) => Fits_is v0 _ [⟨nm.data.toList, (op : Int), vl.data.toList⟩] l w1 h0 (h2.below hb) (by simp) (fun m hm => by rw [List.mem_singleton] at hm; rw [hm]; show vl.data.toList.length ≤ _; rw [size_len]; exact hv) (by omega) hg
  have hfs : ∀ op : Nat, fitsS [⟨nm.data.toList, (op : Int), vl.data.toList⟩] l = holdS (op : Int) vl.data.toList (getS nm.data.toList l).1 := fun op => by simp [fitsS]
  simp only [hfs] at hF
  obtain ⟨f, hf⟩ : ∃ f : Nat → Bool, ∀ op : Nat, holdS (op : Int) vl.data.toList (getS nm.data.toList l).1 = f op := ⟨_, fun _ => rfl⟩
  simp only [hf] at hF
  have HM := fun p hp => two_math vl.data.toList (getS nm.data.toList l).1 p hp
  have e1 := hf 1
  have e2 := hf 2
  have e3 := hf 3
  have e4 := hf 4
  simp only [Int.natCast_one, show ((2 : Nat) : Int) = 2 from rfl, show ((3 : Nat) : Int) = 3 from rfl, show ((4 : Nat) : Int) = 4 from rfl] at e1 e2 e3 e4
  rw [e1, e2, e3, e4] at HM
  clear e1 e2 e3 e4 hfs hf hg
  go_enter Tryz.func7, Tryz.ntmps7
  go_wp2_with fail
  go_loopw [7] (fun iv wr => ∃ i : Nat, iv = .int .i64 i ∧ i ≤ l.length ∧ Below w.heap.size w wr) (fun iv _ => l.length - (intOf iv).toNat)
  case atStart => exact ⟨0, rfl, by omega, Below.refl _ _⟩
  case round =>
    obtain ⟨i, rfl, hi, hbw⟩ := hrel
    by_cases hlt : i < l.length
    · obtain ⟨b, off, rfl, hb, _, c1⟩ := RdL_at h2 hlt
      rw [← hbw.cell (p := ⟨b, off + i * 2 + 1, none⟩) hb] at c1
      have hx := hl l[i] (List.getElem_mem hlt)
      clear h2 hl HM hF
      generalize (l[i]).2 = s at *
      have hL2 := fun w1 => hL s w1 hx.2
      clear hL
      generalize hlb : longB vl.size (⟨s.toArray⟩ : ByteArray).size = lb at *
      cases lb with
      | true =>
        go_wp2_with (first
          | (go_at_call 18; refine (hL2 _).mono ?_; rintro e w1 ⟨rfl, b1⟩; clear hL2; have bt := hbw.trans (b1.mono hbw.size))
          | (go_at_call 19; refine (hK _ bt).mono ?_; rintro e w2 ⟨rfl, b2⟩; clear hK))
        go_ret
        exact ⟨rfl, bt.trans (b2.mono bt.size)⟩
      | false =>
        go_wp2_with (go_at_call 18; refine (hL2 _).mono ?_; rintro e w1 ⟨rfl, b1⟩; clear hL2; have bt := hbw.trans (b1.mono hbw.size))
        go_roundw
        case rel => exact ⟨i + 1, by go_num, by omega, bt⟩
        case measure => simp [intOf]; omega
    · clear hL hl
      go_wp2_with fail
      have rb : (wr.alloc (.cells (arrF f 1) 54)).heap[wr.heap.size]? = some (.cells (arrF f 1) 54 (0, 0)) := heap_alloc_new wr _
      have zb := (Array.getElem?_eq_some_iff.1 rb).1
      have bt : Below w.heap.size w (wr.alloc (.cells (arrF f 1) 54)) := hbw.alloc hbw.size _
      have hz := hbw.size
      generalize hnb : wr.heap.size = nb at *
      generalize hwb : wr.alloc (.cells (arrF f 1) 54) = wb at *
      have hwb2 : wr.alloc (.cells #[.bool false, .bool false, .bool false, .bool false, .bool false] 54) = wb := hwb
      rw [hwb2]
      clear hwb hwb2 hbw hnb
      generalize wr = wo at *
      go_loopw [9] (fun iv wr => ∃ k : Nat, iv = .int .i64 k ∧ 1 ≤ k ∧ k ≤ 5 ∧ Below w.heap.size w wr ∧ wr.heap[nb]? = some (.cells (arrF f k) 54 (0, 0))) (fun iv _ => (5 - intOf iv).toNat)
      case atStart => exact ⟨1, rfl, by omega, by omega, bt, rb⟩
      case round =>
        obtain ⟨k, rfl, hk1, hk5, hbw, hrow⟩ := hrel
        by_cases hk : k ≤ 4
        · have hbx : Below w.heap.size w (wr.alloc (.cells #[.string nm, .int .i64 (k : Int), .string vl] 57)) := hbw.alloc hbw.size _
          have hlit : KM.Rd (wr.alloc (.cells #[.string nm, .int .i64 (k : Int), .string vl] 57)) (.slice (some ⟨wr.heap.size, 0, none⟩) 1 1) [⟨nm.data.toList, (k : Int), vl.data.toList⟩] := (Kd.Own.lit (K := KM) (B := 0) wr [⟨nm.data.toList, (k : Int), vl.data.toList⟩] (by show 1 ≤ maxLen; decide) (Nat.zero_le _)).rd
          have hFk := hF k _ _ hlit hbx
          have hnz := (Array.getElem?_eq_some_iff.1 hrow).1
          have rowA := (heap_alloc_old wr (.cells #[.string nm, .int .i64 (k : Int), .string vl] 57) hnz).trans hrow
          have hstep : ∀ w3 : World, w3.heap[nb]? = some (.cells (arrF f k) 54 (0, 0)) → (w3.setCell ⟨nb, k, none⟩ (.bool (f k))).heap[nb]? = some (.cells (arrF f (k + 1)) 54 (0, 0)) ∧ w3.frozen? ⟨nb, k, none⟩ = false ∧ ∃ b, w3.cell? ⟨nb, k, none⟩ = some (.bool b) := fun w3 h3 => by
            have r := row_set (i := k) h3 (.bool (f k))
            refine ⟨?_, held_frozen h3, ?_⟩
            · rw [r]
              rcases (by omega : k = 1 ∨ k = 2 ∨ k = 3 ∨ k = 4) with rfl | rfl | rfl | rfl <;> rfl
            · rcases (by omega : k = 1 ∨ k = 2 ∨ k = 3 ∨ k = 4) with rfl | rfl | rfl | rfl
              · exact ⟨_, held_cell h3 rfl⟩
              · exact ⟨_, held_cell h3 rfl⟩
              · exact ⟨_, held_cell h3 rfl⟩
              · exact ⟨_, held_cell h3 rfl⟩
          have kx : (k : Int) < 5 := by omega
          have kx2 : (k : Int) ≤ 4 := by omega
          clear HM hF h2
          generalize hfk : f k = bk at *
          go_wp2_with (go_at_call 31; refine hFk.mono ?_; rintro e w3 ⟨rfl, b3⟩; clear hFk; obtain ⟨s1, s2, s3, s4⟩ := hstep w3 ((b3.block nb (by simp; omega)).trans rowA); have bt3 := hbx.trans (b3.mono hbx.size))
          go_roundw
          case rel => exact ⟨k + 1, by go_num, by omega, by omega, bt3.setCell (by show _ ≤ nb; omega) _, s1⟩
          case measure => simp [intOf]; omega
        · have ek : k = 5 := by omega
          subst ek
          clear hF h2
          go_wp2_with fail
          generalize wr = wq at *
          go_loopw [10, 11] (fun pv iv wr => ∃ (i : Nat), iv = .int .i64 i ∧ i ≤ vl.size ∧ Below w.heap.size w wr ∧ wr.heap[nb]? = some (.cells (arrF f 5) 54 (0, 0)) ∧ PlOk vl.data.toList i pv) (fun _ iv _ => vl.size - (intOf iv).toNat)
          case atStart => exact ⟨0, rfl, by omega, hbw, hrow, true, rfl, fun _ => by simp⟩
          case round =>
            clear hbw hrow
            obtain ⟨i, rfl, hi, hbw, hrow, p, rfl, HP0⟩ := hrel
            have HP := hid HP0
            clear HP0
            by_cases hlt : i < vl.size
            · have hin : i < vl.data.toList.length := by rw [size_len]; exact hlt
              have HT : Hid (vl.data.toList.take (i + 1) = vl.data.toList.take i ++ [vl[i]'hlt]) := hid (by
                rw [List.take_add_one, List.getElem?_eq_getElem hin]
                rfl)
              clear hin HM
              cases p with
              | false =>
                clear HT HP
                go_wp2_with fail
                go_roundw
                case rel => first | exact ⟨i + 1, by go_num, by omega, hbw, hrow, PlOk.no _ _⟩ | exact ⟨i + 1, by go_num, by omega, PlOk.no _ _⟩
                case measure => simp [intOf]; omega
              | true =>
                have hcs : (plainC (vl[i]'hlt) = true ∧ 48 ≤ (vl[i]'hlt).toNat ∧ (vl[i]'hlt).toNat ≤ 122 ∧ (((vl[i]'hlt).toNat : Int) != 63) = true ∧ (((vl[i]'hlt).toNat : Int) != 92) = true) ∨ (vl[i]'hlt).toNat < 48 ∨ (48 ≤ (vl[i]'hlt).toNat ∧ 122 < (vl[i]'hlt).toNat) ∨ (vl[i]'hlt).toNat = 63 ∨ (vl[i]'hlt).toNat = 92 := by
                  simp only [plainC, Bool.and_eq_true, decide_eq_true_eq, bne_iff_ne]
                  omega
                rcases hcs with ⟨h0, h1, h2, h3, h4⟩ | h1 | ⟨h1, h2⟩ | h1 | h1
                · have HP2 : Hid (true = true → ∀ c ∈ vl.data.toList.take (i + 1), plainC c = true) := hid (fun _ c hc => by
                    rw [HT.out] at hc
                    rcases List.mem_append.1 hc with hc | hc
                    · exact HP.out rfl c hc
                    · rw [List.mem_singleton] at hc
                      rw [hc]
                      exact h0)
                  clear HT HP h0
                  go_wp2_with fail
                  go_roundw
                  case rel => first | exact ⟨i + 1, by go_num, by omega, hbw, hrow, true, rfl, fun _ => HP2.out (by first | rfl | trivial)⟩ | exact ⟨i + 1, by go_num, by omega, true, rfl, fun _ => HP2.out (by first | rfl | trivial)⟩
                  case measure => simp [intOf]; omega
                all_goals
                  clear HT HP
                  go_wp2_with fail
                  go_roundw
                  case rel => first | exact ⟨i + 1, by go_num, by omega, hbw, hrow, PlOk.no _ _⟩ | exact ⟨i + 1, by go_num, by omega, PlOk.no _ _⟩
                  case measure => simp [intOf]; omega
            · have e : vl.data.toList.take i = vl.data.toList := List.take_of_length_le (by rw [size_len]; omega)
              rw [e] at HP
              obtain ⟨m1, m2, m3⟩ := HM p HP.out
              have q1 : wr.cell? ⟨nb, 1, none⟩ = some (.bool (f 1)) := held_cell hrow rfl
              have q2 : wr.cell? ⟨nb, 2, none⟩ = some (.bool (f 2)) := held_cell hrow rfl
              have q3 : wr.cell? ⟨nb, 3, none⟩ = some (.bool (f 3)) := held_cell hrow rfl
              have q4 : wr.cell? ⟨nb, 4, none⟩ = some (.bool (f 4)) := held_cell hrow rfl
              rw [m2] at q2
              rw [m3] at q4
              clear HM HP m2 m3 hrow
              generalize f 1 = x1 at *
              generalize f 3 = x3 at *
              have hcs : (p = false) ∨ (p = true ∧ x1 = x3) := by
                cases p
                · exact .inl rfl
                · exact .inr ⟨rfl, m1 rfl⟩
              clear m1
              rcases hcs with rfl | ⟨rfl, rfl⟩
              · cases x1 <;> cases x3
                all_goals
                  go_wp2_with (go_at_call 19; refine (hK _ hbw).mono ?_; rintro e w4 ⟨rfl, b4⟩; clear hK)
                  go_ret
                  exact ⟨rfl, hbw.trans (b4.mono hbw.size)⟩
              · cases x1
                all_goals
                  go_wp2_with (go_at_call 19; refine (hK _ hbw).mono ?_; rintro e w4 ⟨rfl, b4⟩; clear hK)
                  go_ret
                  exact ⟨rfl, hbw.trans (b4.mono hbw.size)⟩
end Go.Proofs.YtlhodanpfpfodaaGreatDoor
namespace Go.Proofs.YtlhodanpfpfodaaGreatDoor.MatcherTwo
open Go.ChangeMaps Go.ChangeShapes Go.WideShapes Go.ChangeAt Go.RowKit Go.Icz

set_option maxRecDepth 100000 in
theorem contract (H : Type) (enc : TypeId × Value → H) (W : World) (base : Nat) (args : Array Value) (ds gs : List (DataW H)) (before : List MemPlace)
    (hval : ∀ (j : Nat) t v, Tryz.f7.params[j]? = some t → args[j]? = some v → Value.okWide Tryz.prog W .any base t v)
    (hW : DataW.Whole enc Tryz.prog Tryz.f7.params.toList Rows.matcherTwoSpec.vars false W args.toList ds gs before)
    (hsz : (DataW.weightsEach Tryz.prog (Tryz.f7.params.toList ++ Rows.matcherTwoSpec.plain.varTypes Tryz.prog) (ds ++ gs)).all (· ≤ reachBytes) = true)
    (hL : laidMetH Tryz.prog Rows.matcherTwoRow.laid W) (hk : Rows.uptoSmall H (ds ++ gs) = true) :
    Calls Tryz.prog 7 args W fun e W' => ∃ v, e = .returned v ∧ Rows.matcherTwoSpec.post enc Tryz.prog Tryz.f7 false true false false W args v W' := by
  have hW' := hW
  obtain ⟨p, q, hA0, hV, rfl, hfz, hnd⟩ := hW
  have hA : DataW.TrodAll enc Tryz.prog W 0 (fun _ => true) true Tryz.f7.params.toList args.toList ds p := hA0
  rw [Tryz.params7] at hA hval hsz
  obtain ⟨v0, vs0, d0, ds0, p0, q0, hargs, rfl, rfl, h0, r0⟩ := trodAll_cons hA
  obtain ⟨v1, vs1, d1, ds1, p1, q1, rfl, rfl, rfl, h1, r1⟩ := trodAll_cons r0
  obtain ⟨v2, vs2, d2, ds2, p2, q2, rfl, rfl, rfl, h2, r2⟩ := trodAll_cons r1
  obtain ⟨rfl, rfl, rfl⟩ := trodAll_nil r2
  obtain rfl : args = #[v0, v1, v2] := by cases args; simp_all
  obtain ⟨rfl, rfl⟩ := trodVars_none hV
  obtain ⟨a0, rfl, rfl, rfl, w0⟩ := open_string Tryz.underlying9 (hval 0 9 v0 rfl rfl) h0
  have y0 : a0.size ≤ 1048576 := by
    have h1 := bulk_small hk (d := .lit (.string a0.data.toList)) (by simp)
    rw [bulk_string, size_len] at h1
    omega
  obtain ⟨a1, rfl, rfl, rfl, w1⟩ := open_string Tryz.underlying9 (hval 1 9 v1 rfl rfl) h1
  have y1 : a1.size ≤ 1048576 := by
    have h1 := bulk_small hk (d := .lit (.string a1.data.toList)) (by simp)
    rw [bulk_string, size_len] at h1
    omega
  obtain ⟨a2, len2, cap2, rfl⟩ := okWide_slice Tryz.underlying22 (hval 2 22 v2 rfl rfl)
  have lt2 : ∀ x ∈ p2, x.block < W.heap.size := by
    obtain ⟨m, hm⟩ := h2
    exact DataW.trod_lt m _ _ _ hm
  obtain ⟨l2, hll2, hr2, hb2, hd2⟩ := open_labs h2
  have z2 : l2.length * 32 ≤ 140737488351232 := by
    rcases hd2 with ⟨_, rfl⟩ | ⟨el, sp, rfl, rfl, he, hc⟩
    · simp
    · have h1 := sized_slice hsz (j := 2) (t := 22) (e := 53) rfl rfl Tryz.underlying22
      rw [bytesLab] at h1
      simp only [reachBytes, List.length_map] at h1
      omega
  have y2 : l2.length ≤ 1048576 ∧ ∀ x ∈ l2, x.1.length ≤ 1048576 ∧ x.2.length ≤ 1048576 := by
    rcases hd2 with ⟨_, rfl⟩ | ⟨el, sp, rfl, rfl, he, hc⟩
    · simp
    · exact bulk_labs (sp := sp) (bulk_small hk (by simp))
  clear hA0
  obtain ⟨hT, h9⟩ := tabsM_of hL (.tail _ (.tail _ (.tail _ (.tail _ (.tail _ (.tail _ (.tail _ (.head _)))))))) (.tail _ (.tail _ (.tail _ (.head _)))) (.tail _ (.head _)) (.tail _ (.tail _ (.tail _ (.tail _ (.head _))))) (.tail _ (.tail _ (.tail _ (.tail _ (.tail _ (.head _)))))) (.tail _ (.tail _ (.tail _ (.tail _ (.tail _ (.tail _ (.head _))))))) (.tail _ (.tail _ (.head _)))
  refine (MatcherTwo_walk a0 a1 _ l2 W hr2 y0 y1 y2.1 y2.2 hT h9).mono fun e W' ⟨he, bel⟩ => ?_
  subst he
  exact ⟨_, rfl, _, _, _, [], _, [], hW', trodAll_mk1 (shut_bool Tryz.underlying4 _), (trodAll_cons_mk (shut_string Tryz.underlying9 w0) (trodAll_cons_mk (shut_string Tryz.underlying9 w1) (trodAll_cons_mk (Below.trod laidOut (by kernel_rfl) (of_decide_eq_true (by kernel_rfl)) h2 bel lt2) trodAll_mk0))), rfl, bel.frame _, fun h => by cases h⟩

theorem laid_met (os : Os) : laidMet Tryz.prog Rows.matcherTwoUptoRow.laid ((World.laidAll Tryz.prog os Rows.matcherTwoUptoRow.laid).forCall (fun _ _ => 0) ⟨#[], #[.string ByteArray.empty, .string ByteArray.empty, .slice none 0 0], []⟩).memory :=
  laidMet_laidAll _ (by kernel_rfl) (by kernel_rfl)
theorem reads (os : Os) {H : Type} (enc : TypeId × Value → H) : ∃ places, DataW.whole enc Tryz.prog ((World.laidAll Tryz.prog os Rows.matcherTwoUptoRow.laid).forCall (fun _ _ => 0) ⟨#[], #[.string ByteArray.empty, .string ByteArray.empty, .slice none 0 0], []⟩).memory Tryz.f7.params.toList Rows.matcherTwoSpec.vars false #[.string ByteArray.empty, .string ByteArray.empty, .slice none 0 0].toList 8 = some ([.lit (.string []), .lit (.string []), .nil], [], places) :=
  ⟨[], by kernel_rfl⟩

set_option maxRecDepth 100000 in
theorem lifted (os : Os) (started : os.Started) (H : Type) (enc : TypeId × Value → H) (F : Stop.Interp) :
    ReturnsInHanded {} Tryz.checked os 7 .any ((Rows.OpenSpec.upto Rows.matcherTwoSpec).preRow enc Tryz.prog Tryz.f7 Rows.matcherTwoUptoRow.domain false Rows.matcherTwoUptoRow.laid) (((Rows.OpenSpec.upto Rows.matcherTwoSpec).at F).post enc Tryz.prog Tryz.f7 false true false false) := by
  obtain ⟨places, hx⟩ := reads os enc
  refine returnsInHanded_of_row (C := Tryz.checked) (s := Rows.OpenSpec.upto Rows.matcherTwoSpec) own started (by kernel_rfl) Tryz.func7
    (witness_row_at (enc := enc) (C := Tryz.checked) false (World.laidAll Tryz.prog os Rows.matcherTwoUptoRow.laid) #[.string ByteArray.empty, .string ByteArray.empty, .slice none 0 0] (World.laidAll_os _ _ _) (by kernel_rfl) (by kernel_rfl) (by kernel_rfl)
      (OpenSpec.preRow_of_cond 8 hx (by kernel_rfl) (fun k hk => by cases hk; kernel_rfl) (by kernel_rfl) (laid_met os))) ?_
  intro W base args ds gs before hval hW _ hcond hsz hL _ _
  exact contract H enc W base args ds gs before hval hW hsz hL (hcond _ rfl)

theorem fact_inPlace : Rows.matcherTwoUptoRow.inPlace = Tryz.pinned.checked.prog.inPlace 7 := by kernel_rfl
theorem fact_unfollowed : Rows.matcherTwoUptoRow.unfollowed = Tryz.pinned.checked.prog.unfollowed 7 := by kernel_rfl
theorem fact_recurses : Rows.matcherTwoUptoRow.recurses = Tryz.pinned.checked.prog.recurses 7 := by kernel_rfl
theorem fact_named : Rows.matcherTwoUptoRow.named = Tryz.pinned.checked.prog.varsNamed 7 := by kernel_rfl
set_option maxRecDepth 100000 in
theorem closed : joinedFacts Tryz.pinned.checked.prog 7 Tryz.f7 (Rows.OpenSpec.upto Rows.matcherTwoSpec).bare Rows.matcherTwoUptoRow = true := by
  have h1 : (Rows.matcherTwoUptoRow.inPlace == Tryz.pinned.checked.prog.inPlace 7) = true := beq_iff_eq.2 fact_inPlace
  have h2 : (Rows.matcherTwoUptoRow.unfollowed == Tryz.pinned.checked.prog.unfollowed 7) = true := beq_iff_eq.2 fact_unfollowed
  have h3 : (Rows.matcherTwoUptoRow.recurses == Tryz.pinned.checked.prog.recurses 7) = true := beq_iff_eq.2 fact_recurses
  have h4 : (Rows.matcherTwoUptoRow.named == Tryz.pinned.checked.prog.varsNamed 7) = true := beq_iff_eq.2 fact_named
  unfold joinedFacts
  rw [h1, h2, h3, h4]
  refine Eq.symm ?_
  kernel_rfl
theorem goes : false = Rows.matcherTwoUptoRow.goesBy Tryz.pinned.checked.prog := by kernel_rfl
theorem said : Rows.MatcherTwoUptoSaid :=
  OpenClaim.holds_of_cond 7 Tryz.f7 rfl rfl rfl rfl rfl rfl rfl ⟨rfl, rfl, rfl, rfl, rfl⟩ rfl rfl rfl rfl rfl (by kernel_rfl) Tryz.func7 closed
    (of_decide_eq_true (by kernel_rfl)) (by unfold Func.isWrapper; first | (rw [if_pos (by decide +kernel)]; kernel_rfl) | (rw [if_neg (by decide +kernel)]; exact ⟨rfl, rfl⟩))
    (fun os started H enc _ F => by rw [OpenClaim.pre_eq_preRow]; exact lifted os started H enc F)

theorem plain (f : FuncId) (fn : Func) (hf : Tryz.pinned.checked.prog.funcNamed Tryz.f7.name = some f) (hfn : Tryz.pinned.checked.prog.funcs[f]? = some fn) :
    true = Tryz.pinned.checked.prog.looks [] ∧ ∀ (j : Nat) t, fn.params[j]? = some t → Tryz.pinned.checked.prog.wantsStandIn t = false := by
  obtain rfl : f = 7 := Option.some.inj ((show Tryz.prog.funcNamed Tryz.f7.name = some 7 by kernel_rfl).symm.trans hf) |>.symm
  obtain rfl : fn = Tryz.f7 := (Option.some.inj (Tryz.func7.symm.trans hfn)).symm
  refine ⟨by kernel_rfl, fun j t ht => ?_⟩
  rw [Tryz.params7] at ht
  have hm : t ∈ [9, 9, 22] := by simpa using Array.mem_of_getElem? ht
  have hall : ([9, 9, 22].all fun u => !Tryz.prog.wantsStandIn u) = true := by kernel_rfl
  exact (show Tryz.prog.wantsStandIn t = false by simpa using List.all_eq_true.1 hall t hm)

/-- THE STATEMENT. -/
theorem proved : Rows.MatcherTwoUptoCardSaid :=
  Claim7.holds_tied_plain_at .later [] _ _ _ _ said (fun _ h => by cases h) (by kernel_rfl) (fun _ h => by cases h) matcherTwoUpto_row_tie rfl ⟨rfl, rfl⟩ (by kernel_rfl) rfl plain goes

end Go.Proofs.YtlhodanpfpfodaaGreatDoor.MatcherTwo
