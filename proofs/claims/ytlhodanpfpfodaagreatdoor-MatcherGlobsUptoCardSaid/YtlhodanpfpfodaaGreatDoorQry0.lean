/-
  Queries of package matcher: matches and queries in memory; which may be. No condition.
-/
import Derived.Test.YtlhodanpfpfodaaGreatDoorGRow
import Derived.Test.YtlhodanpfpfodaaGreatDoorQuote
import Derived.Test.YtlhodanpfpfodaaGreatDoorPair
namespace Go.Icz
open Go.RowKit
/-- A match of a query: its name, its sign's number, its value. -/
structure Mt where
  name : B8
  op : Int
  val : B8
/-- A query. -/
structure Qy where
  ms : List Mt
  has : B8
  fr : Int
  upto : Int
  lim : Int
  newest : Bool
def textS (n : Nat) (s : B8) : Bool := decide (s.length ≤ n) && Lib.validD s
def okM (m : Mt) : Bool := decide (1 ≤ m.op ∧ m.op ≤ 4) && nameS m.name && textS 128 m.val
def timesQ (q : Qy) : Bool := decide (0 ≤ q.fr ∧ q.fr ≤ q.upto ∧ q.upto ≤ 1099511627776)
def rightQ (q : Qy) : Bool := decide (q.ms.length ≤ 8) && textS 1024 q.has && q.ms.all okM && timesQ q && decide (0 ≤ q.lim ∧ q.lim ≤ 10000)
end Go.Icz
namespace Go.Proofs.YtlhodanpfpfodaaGreatDoor
open Go.RowKit Go.Icz
def KM : Kd Mt := { e := 57, z := 3, enc := fun m => [.string ⟨m.name.toArray⟩, .int .i64 m.op, .string ⟨m.val.toArray⟩], len := fun _ => rfl, pos := by decide, one := fun m u hu => (by
    simp only [List.mem_cons, List.not_mem_nil, or_false] at hu
    rcases hu with h | h | h <;> rw [h] <;> rfl) }
/-- A query as a value. -/
def qryV (mv : Value) (q : Qy) : Value := .agg #[mv, .string ⟨q.has.toArray⟩, .int .i64 q.fr, .int .i64 q.upto, .int .i64 q.lim, .bool q.newest]
theorem KM_at {w : World} {A : Option Addr} {n c : Nat} {l : List Mt} (h : KM.Rd w (.slice A n c) l) {j : Nat} (hj : j < l.length) :
    ∃ b off, A = some ⟨b, off, none⟩ ∧ b < w.heap.size ∧ w.cell? ⟨b, off + j * 3, none⟩ = some (.string ⟨(l[j]).name.toArray⟩) ∧ w.cell? ⟨b, off + j * 3 + 1, none⟩ = some (.int .i64 (l[j]).op) ∧ w.cell? ⟨b, off + j * 3 + 2, none⟩ = some (.string ⟨(l[j]).val.toArray⟩) := by
  obtain ⟨b, off, hA, hb, hc⟩ := h.at hj
  exact ⟨b, off, hA, hb, hc 0 _ (by decide) rfl, hc 1 _ (by decide) rfl, hc 2 _ (by decide) rfl⟩
set_option maxRecDepth 100000 in
theorem rightText_is (s : B8) (n : Nat) (w : World) (hs : s.length ≤ 9223372036854775807) (hT : Tabs w) :
    Calls Tryz.prog 60 #[.string ⟨s.toArray⟩, .int .i64 n] w fun e w' => e = .returned (.bool (textS n s)) ∧ Below w.heap.size w w' := by
  have hV := Tryz.utf8_ValidString ⟨s.toArray⟩ w (by rw [Lib.size_mk]; exact hs) hT.utf8
  have hz : (⟨s.toArray⟩ : ByteArray).size = s.length := Lib.size_mk s
  simp only [] at hV
  by_cases h : s.length ≤ n
  · have h' : (s.length : Int) ≤ n := by omega
    have HX : Hid (textS n s = Lib.validD s) := hid (by unfold textS; rw [decide_eq_true h]; rfl)
    generalize Lib.validD s = b at *
    go_enter Tryz.func60, Tryz.ntmps60
    go_wp2_with (go_at_call 85; refine hV.mono ?_; rintro e w' ⟨rfl, bel⟩)
    go_ret
    exact ⟨by rw [HX.out]; rfl, bel⟩
  · have h' : ¬ (s.length : Int) ≤ n := by omega
    have HX : Hid (textS n s = false) := hid (by unfold textS; rw [decide_eq_false h]; rfl)
    go_enter Tryz.func60, Tryz.ntmps60
    go_wp2_with fail
    go_ret
    exact ⟨by rw [HX.out]; rfl, Below.refl _ _⟩
set_option maxHeartbeats 4000000 in
set_option maxRecDepth 100000 in
theorem MRight_is (mv : Value) (q : Qy) (w : World) (hR : KM.Rd w mv q.ms) (hm : q.ms.length ≤ 4611686018427387904) (hz : ∀ m ∈ q.ms, m.name.length ≤ 9223372036854775807 ∧ m.val.length ≤ 9223372036854775807) (hh : q.has.length ≤ 9223372036854775807) (hT : Tabs w) :
    Calls Tryz.prog 25 #[qryV mv q] w fun e w' => e = .returned (.bool (rightQ q)) ∧ Below w.heap.size w w' := by
  obtain ⟨A, c, rfl, hc⟩ := hR.form
  obtain ⟨ms, has, fr, upt, lim, nw⟩ := q
  simp only [] at *
  unfold qryV
  have HQ : Hid (rightQ ⟨ms, has, fr, upt, lim, nw⟩ = (decide (ms.length ≤ 8) && textS 1024 has && ms.all okM && decide (0 ≤ fr ∧ fr ≤ upt ∧ upt ≤ 1099511627776) && decide (0 ≤ lim ∧ lim ≤ 10000))) := hid rfl
  generalize rightQ ⟨ms, has, fr, upt, lim, nw⟩ = rq at *
  by_cases h8 : ms.length ≤ 8
  · have h8' : ¬ (8 : Int) < ms.length := by omega
    have AR := fun (w1 : World) (hb : Below w.heap.size w w1) => rightText_is has 1024 w1 hh (hT.below hb)
    cases ht : textS 1024 has with
    | false =>
      rw [ht] at AR
      have HN : Hid (rq = false) := hid (by rw [HQ.out, ht]; simp)
      clear HQ ht
      go_enter Tryz.func25, Tryz.ntmps25
      go_wp2_with (go_at_call 60; refine (AR _ ((Below.refl _ w).alloc (Nat.le_refl _) _)).mono ?_; rintro e w1 ⟨rfl, b1⟩)
      go_ret
      exact ⟨by rw [HN.out]; rfl, below_alloc (Nat.le_refl _) (b1.mono (by simp))⟩
    | true =>
      rw [ht] at AR
      have HQ2 : Hid (rq = (ms.all okM && decide (0 ≤ fr ∧ fr ≤ upt ∧ upt ≤ 1099511627776) && decide (0 ≤ lim ∧ lim ≤ 10000))) := hid (by rw [HQ.out, ht, decide_eq_true h8]; simp)
      clear HQ ht
      have t0 := True.intro
      go_enter Tryz.func25, Tryz.ntmps25
      go_wp2_with (clear t0; go_at_call 60; refine (AR _ ((Below.refl _ w).alloc (Nat.le_refl _) _)).mono ?_; rintro e w1 ⟨rfl, b1⟩; have hk := (b1.block w.heap.size (by simp)).trans (heap_alloc_new w _); have cB : Below w.heap.size w w1 := below_alloc (Nat.le_refl _) (b1.mono (by simp)); have q0 := held_cell (i := 0) hk rfl; clear b1 AR)
      clear q0
      go_loopw [20] (fun kv wr => ∃ k : Nat, kv = .int .i64 k ∧ k ≤ ms.length ∧ wr.heap[w.heap.size]? = some (.cells #[.slice A ms.length c, .string ⟨has.toArray⟩, .int .i64 fr, .int .i64 upt, .int .i64 lim, .bool nw] 40 (0, 0)) ∧ Below w.heap.size w wr ∧ Hid (ms.all okM = (ms.drop k).all okM)) (fun kv _ => ms.length - (intOf kv).toNat)
      case atStart => exact ⟨0, rfl, by omega, hk, cB, hid (by rw [List.drop_zero])⟩
      case round =>
        clear hk cB
        obtain ⟨k, rfl, hkl, hk, hbw, HK⟩ := hrel
        by_cases hlt : k < ms.length
        · have hlt' : (k : Int) < ms.length := by omega
          obtain ⟨b, off, rfl, hb, hc0, hc1, hc2⟩ := KM_at (hR.below hbw) hlt
          have hd : ms.drop k = ms[k] :: ms.drop (k + 1) := List.drop_eq_getElem_cons hlt
          have hzk := hz ms[k] (List.getElem_mem hlt)
          have hsz : w.heap.size < wr.heap.size := (Array.getElem?_eq_some_iff.1 hk).1
          clear hR
          generalize ms[k] = m at *
          obtain ⟨nm, op, vl⟩ := m
          simp only [] at hc0 hc1 hc2 hzk
          have AN := fun (w1 : World) => Name_is ⟨nm.toArray⟩ w1 (by rw [Lib.size_mk]; exact hzk.1)
          have AV := fun (w1 : World) (hb : Below w.heap.size w w1) => rightText_is vl 128 w1 hzk.2 (hT.below hb)
          simp only [] at AN
          have HF : okM ⟨nm, op, vl⟩ = false → Hid (rq = false) := fun h => hid (by rw [HQ2.out, HK.out, hd, List.all_cons, h]; simp)
          have HO : okM ⟨nm, op, vl⟩ = true → Hid (ms.all okM = (ms.drop (k + 1)).all okM) := fun h => hid (by rw [HK.out, hd, List.all_cons, h, Bool.true_and])
          have hok : okM ⟨nm, op, vl⟩ = (decide (1 ≤ op ∧ op ≤ 4) && nameS nm && textS 128 vl) := rfl
          rw [hok] at HF HO
          clear hok hd HK
          have cA : Below w.heap.size w (wr.alloc (.cells #[.string ⟨nm.toArray⟩, .int .i64 op, .string ⟨vl.toArray⟩] 57)) := hbw.alloc (Nat.le_of_lt hsz) _
          by_cases o1 : 1 ≤ op
          · by_cases o4 : op ≤ 4
            · rw [decide_eq_true (⟨o1, o4⟩ : 1 ≤ op ∧ op ≤ 4)] at HF HO
              cases hn : nameS nm with
              | true =>
                rw [hn] at AN HF HO
                cases hv : textS 128 vl with
                | true =>
                  rw [hv] at AV HO
                  have HO := HO rfl
                  clear hn hv HF
                  have t1 := True.intro
                  go_wp2_with (first
                    | (clear t1; go_at_call 47; refine (AN _).mono ?_; rintro e w2 ⟨rfl, b2⟩; have c2 := cA.trans (b2.mono (by simp; omega)); have k2 := (b2.block w.heap.size (by simp; omega)).trans ((heap_alloc_old wr _ hsz).trans hk); have m2 := (b2.block wr.heap.size (by simp)).trans (heap_alloc_new wr _); have p2 := held_cell (i := 2) m2 rfl; have z2 := b2.size; clear b2 AN; have t2 := True.intro)
                    | (clear t2; go_at_call 60; refine (AV _ c2).mono ?_; rintro e w3 ⟨rfl, b3⟩; have c3 := c2.trans (b3.mono (by have := c2.size; omega)); have k3 := (b3.block w.heap.size (by simp at z2; omega)).trans k2; clear b3 AV m2 p2))
                  exact ⟨⟨k + 1, by go_num, by omega, k3, c3, HO⟩, by simp [intOf]; omega⟩
                | false =>
                  rw [hv] at AV HF
                  have HN := HF rfl
                  clear hn hv HO
                  have t1 := True.intro
                  go_wp2_with (first
                    | (clear t1; go_at_call 47; refine (AN _).mono ?_; rintro e w2 ⟨rfl, b2⟩; have c2 := cA.trans (b2.mono (by simp; omega)); have m2 := (b2.block wr.heap.size (by simp)).trans (heap_alloc_new wr _); have p2 := held_cell (i := 2) m2 rfl; clear b2 AN; have t2 := True.intro)
                    | (clear t2; go_at_call 60; refine (AV _ c2).mono ?_; rintro e w3 ⟨rfl, b3⟩; have c3 := c2.trans (b3.mono (by have := c2.size; omega)); clear b3 AV m2 p2))
                  go_ret
                  exact ⟨by rw [HN.out]; rfl, c3⟩
              | false =>
                rw [hn] at AN HF
                have HN := HF rfl
                clear hn HO AV
                go_wp2_with (go_at_call 47; refine (AN _).mono ?_; rintro e w2 ⟨rfl, b2⟩)
                go_ret
                exact ⟨by rw [HN.out]; rfl, cA.trans (b2.mono (by simp; omega))⟩
            · have HN := HF (by rw [decide_eq_false (fun h => o4 h.2)]; rfl)
              clear HO AV AN HF
              go_wp2_with fail
              go_ret
              exact ⟨by rw [HN.out]; rfl, cA⟩
          · have HN := HF (by rw [decide_eq_false (fun h => o1 h.1)]; rfl)
            clear HO AV AN HF
            go_wp2_with fail
            go_ret
            exact ⟨by rw [HN.out]; rfl, cA⟩
        · have hlt' : ¬ (k : Int) < ms.length := by omega
          have HQ3 : Hid (rq = (decide (0 ≤ fr ∧ fr ≤ upt ∧ upt ≤ 1099511627776) && decide (0 ≤ lim ∧ lim ≤ 10000))) := hid (by rw [HQ2.out, HK.out, List.drop_of_length_le (by omega)]; simp)
          have q2 := held_cell (i := 2) hk rfl
          have q3 := held_cell (i := 3) hk rfl
          have q4 := held_cell (i := 4) hk rfl
          clear HQ2 HK
          by_cases d0 : 0 ≤ fr
          · by_cases d1 : fr ≤ upt
            · by_cases d2 : upt ≤ 1099511627776
              · by_cases d3 : 0 ≤ lim
                · by_cases d4 : lim ≤ 10000
                  · have HN : Hid (rq = true) := hid (by rw [HQ3.out, decide_eq_true ⟨d0, d1, d2⟩, decide_eq_true ⟨d3, d4⟩]; rfl)
                    clear HQ3
                    go_wp2_with fail
                    go_ret
                    exact ⟨by rw [HN.out]; rfl, hbw⟩
                  · have HN : Hid (rq = false) := hid (by rw [HQ3.out, decide_eq_true ⟨d0, d1, d2⟩, decide_eq_false (fun h => d4 h.2)]; first | rfl | simp)
                    clear HQ3
                    go_wp2_with fail
                    go_ret
                    exact ⟨by rw [HN.out]; rfl, hbw⟩
                · have HN : Hid (rq = false) := hid (by rw [HQ3.out, decide_eq_true ⟨d0, d1, d2⟩, decide_eq_false (fun h => d3 h.1)]; first | rfl | simp)
                  clear HQ3
                  go_wp2_with fail
                  go_ret
                  exact ⟨by rw [HN.out]; rfl, hbw⟩
              · have HN : Hid (rq = false) := hid (by rw [HQ3.out, decide_eq_false (fun h => d2 h.2.2)]; first | rfl | simp)
                clear HQ3
                go_wp2_with fail
                go_ret
                exact ⟨by rw [HN.out]; rfl, hbw⟩
            · have HN : Hid (rq = false) := hid (by rw [HQ3.out, decide_eq_false (fun h => d1 h.2.1)]; first | rfl | simp)
              clear HQ3
              go_wp2_with fail
              go_ret
              exact ⟨by rw [HN.out]; rfl, hbw⟩
          · have HN : Hid (rq = false) := hid (by rw [HQ3.out, decide_eq_false (fun h => d0 h.1)]; first | rfl | simp)
            clear HQ3
            go_wp2_with fail
            go_ret
            exact ⟨by rw [HN.out]; rfl, hbw⟩
  · have h8' : (8 : Int) < ms.length := by omega
    have HN : Hid (rq = false) := hid (by rw [HQ.out, decide_eq_false h8]; simp)
    clear HQ
    go_enter Tryz.func25, Tryz.ntmps25
    go_wp2_with fail
    go_ret
    exact ⟨by rw [HN.out]; rfl, (Below.refl _ w).alloc (Nat.le_refl _) _⟩
end Go.Proofs.YtlhodanpfpfodaaGreatDoor
