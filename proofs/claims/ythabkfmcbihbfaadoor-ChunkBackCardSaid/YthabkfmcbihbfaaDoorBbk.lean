/-
  The reference's Zig. Conditions: the number is one of 56 bits.
  What was written of a chunk is read again; with one byte less it is none. Conditions: the chunk may be.
  Chunks are read as they were written, one byte less is none: the law's walk. Conditions: those that each theorem names.
-/
import Derived.Test.YthabkfmcbihbfaaDoorBgt
import Derived.Test.YthabkfmcbihbfaaDoorHpw
import Derived.Test.YthabkfmcbihbfaaDoorEntMath
import Derived.Test.YthabkfmcbihbfaaDoorHrr
import Derived.Test.YthabkfmcbihbfaaDoorHkn
import Derived.Test.YthabkfmcbihbfaaDoorHsa
section
namespace Go.Proofs.YthabkfmcbihbfaaDoor
open Go.RowKit Go.Icz
set_option maxRecDepth 100000
theorem unz_zig (n : Int) : unz (zig n) = n := by unfold unz zig; split <;> split <;> omega
theorem Zig_any (n : Int) (w : World) (h0 : -36028797018963968 ≤ n) (h1 : n < 36028797018963968) :
    Calls Tryd.prog 51 #[.int .i64 n] w fun e w' => e = .returned (.int .i64 (zig n : Int)) ∧ w = w' := by
  by_cases hn : n < 0
  · have hz : Hid ((-2 * n - 1) = (zig n : Int)) := hid (by unfold zig; rw [if_pos hn]; omega)
    go_enter Tryd.func51, Tryd.ntmps51
    go_wp2
    go_ret
    exact ⟨by rw [← hz.out]; rfl, rfl⟩
  · have hz : Hid ((2 * n) = (zig n : Int)) := hid (by unfold zig; rw [if_neg hn]; omega)
    go_enter Tryd.func51, Tryd.ntmps51
    go_wp2
    go_ret
    exact ⟨by rw [← hz.out]; rfl, rfl⟩
end Go.Proofs.YthabkfmcbihbfaaDoor
end
section
namespace Go.Proofs.YthabkfmcbihbfaaDoor
open Go.RowKit Go.Icz
/-- The bytes of the j-th row. -/
def rowJ (rows : List CRow) (j : Nat) : List Nat :=
  if j = 0 then num (crAt rows 0).time.toNat ++ num (crAt rows 0).seq.toNat ++ txt ⟨(crAt rows 0).line.toArray⟩ else pairB (crAt rows (j - 1), crAt rows j)
/-- The bytes of the first k rows. -/
def bodyK (rows : List CRow) : Nat → List Nat
  | 0 => []
  | k + 1 => bodyK rows k ++ rowJ rows k
theorem prs_body (rows : List CRow) : ∀ k, k + 1 ≤ rows.length → bodyK rows 1 ++ ((prs rows 0).take k).flatMap pairB = bodyK rows (k + 1)
  | 0, _ => by simp
  | k + 1, h => by
    have ih := prs_body rows k (by omega)
    have hl : (prs rows 0).length = rows.length - 1 := by unfold prs; rw [List.length_zip, List.length_drop, List.length_drop]; omega
    have hk : k < (prs rows 0).length := by omega
    have hg0 : ∀ (l : List (CRow × CRow)) (e : l = (rows.drop 0).zip (rows.drop 1)) (hk' : k < l.length), l[k] = (crAt rows k, crAt rows (k + 1)) := by
      rintro l rfl hk'
      rw [List.getElem_zip, crAt_eq (by omega), crAt_eq (by omega)]
      simp [List.getElem_drop, Nat.add_comm]
    have hg := hg0 (prs rows 0) rfl hk
    rw [List.take_succ_eq_append_getElem hk, List.flatMap_append, ← List.append_assoc, ih, hg]
    show bodyK rows (k + 1) ++ _ = bodyK rows (k + 1) ++ rowJ rows (k + 1)
    unfold rowJ
    rw [if_neg (by omega)]
    simp
theorem chB_body (labs : List Lab) (rows : List CRow) (h : 1 ≤ rows.length) : chB labs rows = txt (str (bytesN labs)) ++ (num rows.length ++ bodyK rows rows.length) := by
  have hl : (prs rows 0).length = rows.length - 1 := by unfold prs; rw [List.length_zip, List.length_drop, List.length_drop]; omega
  have hb := prs_body rows (rows.length - 1) (by omega)
  rw [List.take_of_length_le (by omega), Nat.sub_add_cancel h] at hb
  have h0 : rows.headD ⟨0, 0, []⟩ = crAt rows 0 := by
    rw [crAt_eq (by omega)]
    cases rows with
    | nil => exact absurd h (by decide)
    | cons a t => rfl
  unfold chB headB
  rw [h0, ← hb]
  show _ = _ ++ (_ ++ (([] ++ rowJ rows 0) ++ _))
  unfold rowJ
  rw [if_pos rfl]
  simp
theorem txt_of (s : B8) (h : s.length ≤ 1024) : (⟨s.toArray⟩ : ByteArray).size ≤ 65536 := by rw [Lib.size_mk]; omega
/-- The front of a row's bytes: all but its line. -/
def rowF (rows : List CRow) (j : Nat) : List Nat :=
  if j = 0 then num (crAt rows 0).time.toNat ++ num (crAt rows 0).seq.toNat else num ((crAt rows j).time - (crAt rows (j - 1)).time).toNat ++ num (zig ((crAt rows j).seq - (crAt rows (j - 1)).seq))
theorem rowJ_eq (rows : List CRow) (j : Nat) : rowJ rows j = rowF rows j ++ txt ⟨(crAt rows j).line.toArray⟩ := by
  unfold rowJ rowF pairB
  by_cases h : j = 0
  · subst h; simp
  · rw [if_neg h, if_neg h]
theorem sgnD_zig {n : Int} (r : List Nat) (h0 : -36028797018963968 ≤ n) (h1 : n < 36028797018963968) : sgnD (num (zig n) ++ r) 0 = (n, r, 0) := by
  unfold sgnD
  rw [numD_num r (zig_lt h0 h1), unz_zig]
/-- One row read from where it stands. -/
theorem row_read {rows : List CRow} {j : Nat} (hj : okAt rows j) (hp : 0 < j → rowOk (crAt rows (j - 1))) (R : List CRow) (t s : Int) (ln : B8) (tail : List Nat)
    (ht : t = if j = 0 then 0 else (crAt rows (j - 1)).time) (hs : s = if j = 0 then 0 else (crAt rows (j - 1)).seq) :
    rowStep j ⟨R, t, s, ln, rowF rows j ++ tail, 0⟩ = ⟨R ++ [⟨(crAt rows j).seq, (crAt rows j).time, bt (txtD tail 0).1⟩], (crAt rows j).time, (crAt rows j).seq, bt (txtD tail 0).1, (txtD tail 0).2.1, (txtD tail 0).2.2⟩ := by
  obtain ⟨⟨⟨s1, s2⟩, ⟨u1, u2⟩, l1⟩, h2, -⟩ := hj
  by_cases h0 : j = 0
  · subst h0
    simp only [if_pos] at ht hs
    have e1 := numD_num (n := (crAt rows 0).time.toNat) (num (crAt rows 0).seq.toNat ++ tail) (by omega)
    have e2 := numD_num (n := (crAt rows 0).seq.toNat) tail (by omega)
    have z1 : IntKind.i64.wrap (0 + (((crAt rows 0).time.toNat : Nat) : Int)) = (crAt rows 0).time := by rw [IntKind.wrap_i64] <;> omega
    have z2 : (((crAt rows 0).seq.toNat : Nat) : Int) = (crAt rows 0).seq := by omega
    subst ht hs
    unfold rowStep rowF seqStep
    rw [if_pos rfl, List.append_assoc, e1]
    simp only [if_pos]
    rw [e2]
    simp only
    rw [z1, z2]
  · rw [if_neg h0] at ht hs
    obtain ⟨⟨p1, p2⟩, ⟨v1, v2⟩, -⟩ := hp (by omega)
    have h2 := h2 (by omega)
    have e1 := numD_num (n := ((crAt rows j).time - (crAt rows (j - 1)).time).toNat) (num (zig ((crAt rows j).seq - (crAt rows (j - 1)).seq)) ++ tail) (by omega)
    have e2 := sgnD_zig (n := (crAt rows j).seq - (crAt rows (j - 1)).seq) tail (by omega) (by omega)
    have z1 : IntKind.i64.wrap (t + ((((crAt rows j).time - (crAt rows (j - 1)).time).toNat : Nat) : Int)) = (crAt rows j).time := by rw [ht, IntKind.wrap_i64] <;> omega
    have z2 : IntKind.i64.wrap (s + ((crAt rows j).seq - (crAt rows (j - 1)).seq)) = (crAt rows j).seq := by rw [hs, IntKind.wrap_i64] <;> omega
    unfold rowStep rowF seqStep
    rw [if_neg h0, List.append_assoc, e1]
    simp only [if_neg h0]
    rw [e2]
    simp only
    rw [z1, z2]
/-- The last row's numbers behind k rows. -/
def lastT (rows : List CRow) (k : Nat) : Int := if k = 0 then 0 else (crAt rows (k - 1)).time
def lastQ (rows : List CRow) (k : Nat) : Int := if k = 0 then 0 else (crAt rows (k - 1)).seq
theorem rowsTo_body {rows : List CRow} (h : ∀ j, j < rows.length → okAt rows j) (tail : List Nat) : ∀ k, k ≤ rows.length → ∀ m, ∃ ln, rowsTo (bodyK rows k ++ tail) m k = ⟨rows.take k, lastT rows k, lastQ rows k, ln, tail, 0⟩ ∨ m ≠ 0
  | 0, _, m => ⟨[], by
    by_cases hm : m = 0
    · subst hm; exact .inl (by simp [rowsTo, bodyK, lastT, lastQ])
    · exact .inr hm⟩
  | k + 1, hk, m => by
    by_cases hm : m = 0
    · subst hm
      obtain ⟨ln, hh⟩ := rowsTo_body (rows := rows) h (rowJ rows k ++ tail) k (by omega) 0
      rcases hh with hh | hh
      · refine ⟨(crAt rows k).line, .inl ?_⟩
        have ok := h k (by omega)
        have st := row_read ok (fun h0 => (h (k - 1) (by omega)).1) (rows.take k) (lastT rows k) (lastQ rows k) ln (txt ⟨(crAt rows k).line.toArray⟩ ++ tail) rfl rfl
        rw [txtD_txt _ tail (txt_of _ ok.1.2.2)] at st
        simp only [bt_nats] at st
        show rowStep k (rowsTo ((bodyK rows k ++ rowJ rows k) ++ tail) 0 k) = _
        rw [List.append_assoc, hh, rowJ_eq, List.append_assoc, st]
        have ht : rows.take (k + 1) = rows.take k ++ [crAt rows k] := by rw [List.take_succ_eq_append_getElem (by omega), crAt_eq (by omega)]
        rw [ht]
        unfold lastT lastQ
        rw [if_neg (by omega), if_neg (by omega), Nat.add_sub_cancel]
      · exact absurd rfl hh
    · exact ⟨[], .inr hm⟩
theorem gparts {labs : List Lab} (hr : rightS labs = true) (r : List Nat) : txtD (txt (str (bytesN labs)) ++ r) 0 = (bytesN labs, r, 0) ∧ readS (bytesN labs) = (labs, 0) := by
  have hb := bytesN_len hr
  have h := txtD_txt (str (bytesN labs)) r (by rw [str_len]; omega)
  rw [nats_str _ (bytesN_lt labs)] at h
  exact ⟨h, readS_bytes hr⟩
theorem getC_back {labs : List Lab} {rows : List CRow} (hf : chR labs rows = true) : getC (chB labs rows) = (labs, rows, 0) := by
  obtain ⟨⟨n1, n2⟩, hr, hok⟩ := (chR_iff labs rows).1 hf
  obtain ⟨p1, p2⟩ := gparts hr (num rows.length ++ bodyK rows rows.length)
  have e := chB_body labs rows n1
  have hn := numD_num (n := rows.length) (bodyK rows rows.length) (by omega)
  obtain ⟨ln, hb⟩ := rowsTo_body hok [] rows.length (Nat.le_refl _) 0
  rcases hb with hb | hb
  · rw [List.append_nil, List.take_of_length_le (Nat.le_refl _)] at hb
    have hG : gRows (chB labs rows) = ⟨rows, lastT rows rows.length, lastQ rows rows.length, ln, [], 0⟩ := by
      unfold gRows readR
      rw [e, p1]
      simp only
      rw [hn]
      simp only
      rw [if_neg (by omega), hb]
    have hL : gLabs (chB labs rows) = labs := by unfold gLabs; rw [e, p1, p2]
    have hO : gOk (chB labs rows) = true := by
      unfold gOk
      rw [hG, hL, e, p1]
      simp [p2, hf, doneD]
    unfold getC
    rw [if_pos hO, hG, hL]
  · exact absurd rfl hb
theorem getC_less {labs : List Lab} {rows : List CRow} (hf : chR labs rows = true) : getC ((chB labs rows).take ((chB labs rows).length - 1)) = ([], [], 21) := by
  obtain ⟨⟨n1, n2⟩, hr, hok⟩ := (chR_iff labs rows).1 hf
  obtain ⟨k, hk⟩ : ∃ k, rows.length = k + 1 := ⟨rows.length - 1, by omega⟩
  have okk := hok k (by omega)
  obtain ⟨lt, hlt⟩ : ∃ lt, lt = txt ⟨(crAt rows k).line.toArray⟩ := ⟨_, rfl⟩
  have hpos : 0 < lt.length := by rw [hlt]; exact txt_pos _
  obtain ⟨ct, hct⟩ : ∃ ct, ct = lt.take (lt.length - 1) := ⟨_, rfl⟩
  have hcut : (txtD ct 0).2.2 ≠ 0 := by rw [hct, hlt]; exact txtD_cut _ _ (txt_of _ okk.1.2.2) (by rw [← hlt]; omega)
  have e : (chB labs rows).take ((chB labs rows).length - 1) = txt (str (bytesN labs)) ++ (num rows.length ++ (bodyK rows k ++ (rowF rows k ++ ct))) := by
    have e0 : chB labs rows = (txt (str (bytesN labs)) ++ (num rows.length ++ (bodyK rows k ++ rowF rows k))) ++ lt := by
      rw [chB_body labs rows n1, hk, hlt]
      show _ ++ (_ ++ (bodyK rows k ++ rowJ rows k)) = _
      rw [rowJ_eq]
      simp
    rw [e0, List.take_append, List.take_of_length_le (by simp only [List.length_append]; omega), hct]
    have : ((txt (str (bytesN labs)) ++ (num rows.length ++ (bodyK rows k ++ rowF rows k))) ++ lt).length - 1 - (txt (str (bytesN labs)) ++ (num rows.length ++ (bodyK rows k ++ rowF rows k))).length = lt.length - 1 := by
      rw [List.length_append]; omega
    rw [this]
    simp
  obtain ⟨p1, p2⟩ := gparts hr (num rows.length ++ (bodyK rows k ++ (rowF rows k ++ ct)))
  have hn := numD_num (n := rows.length) (bodyK rows k ++ (rowF rows k ++ ct)) (by omega)
  obtain ⟨ln, hb⟩ := rowsTo_body hok (rowF rows k ++ ct) k (by omega) 0
  rcases hb with hb | hb
  · have st := row_read okk (fun h0 => (hok (k - 1) (by omega)).1) (rows.take k) (lastT rows k) (lastQ rows k) ln ct rfl rfl
    have hE : (gRows ((chB labs rows).take ((chB labs rows).length - 1))).er ≠ 0 := by
      unfold gRows readR
      rw [e, p1]
      simp only
      rw [hn]
      simp only
      rw [if_neg (by omega), hk]
      show (rowStep k (rowsTo (bodyK rows k ++ (rowF rows k ++ ct)) 0 k)).er ≠ 0
      rw [hb, st]
      exact hcut
    have hO : gOk ((chB labs rows).take ((chB labs rows).length - 1)) = false := by
      unfold gOk doneD
      rw [if_pos hE]
      simp [hE]
    unfold getC
    rw [hO]
    rfl
  · exact absurd rfl hb
end Go.Proofs.YthabkfmcbihbfaaDoor
end
section
namespace Go.Proofs.YthabkfmcbihbfaaDoor
open Go.RowKit Go.Icz Go.Shelf
attribute [local go_sem] Oper.semAt_some
set_option maxRecDepth 100000
set_option maxHeartbeats 4000000
theorem txt_lt (s : ByteArray) : ∀ b ∈ txt s, b < 256 := fun b h => by
  unfold txt at h
  rcases List.mem_append.1 h with h | h
  · exact num_lt _ b h
  · exact nats_lt s b h
theorem rowJ_fit {rows : List CRow} {j : Nat} (hj : okAt rows j) (hp : 0 < j → rowOk (crAt rows (j - 1))) : (rowJ rows j).length ≤ 1048 ∧ ∀ b ∈ rowJ rows j, b < 256 := by
  obtain ⟨⟨⟨s1, s2⟩, ⟨u1, u2⟩, l1⟩, h2, -⟩ := hj
  have hls : (⟨(crAt rows j).line.toArray⟩ : ByteArray).size = (crAt rows j).line.length := Lib.size_mk _
  have l3 := txt_len2 ⟨(crAt rows j).line.toArray⟩ (by omega)
  rw [rowJ_eq]
  have hF : (rowF rows j).length ≤ 16 ∧ ∀ b ∈ rowF rows j, b < 256 := by
    unfold rowF
    by_cases h0 : j = 0
    · subst h0
      rw [if_pos rfl]
      have a1 := num_len8 (n := (crAt rows 0).time.toNat) (by omega)
      have a2 := num_len8 (n := (crAt rows 0).seq.toNat) (by omega)
      exact ⟨by rw [List.length_append]; omega, fun b hb => (List.mem_append.1 hb).elim (num_lt _ b) (num_lt _ b)⟩
    · rw [if_neg h0]
      obtain ⟨⟨p1, p2⟩, ⟨v1, v2⟩, -⟩ := hp (by omega)
      have h2 := h2 (by omega)
      have a1 := num_len8 (n := ((crAt rows j).time - (crAt rows (j - 1)).time).toNat) (by omega)
      have a2 := num_len8 (n := zig ((crAt rows j).seq - (crAt rows (j - 1)).seq)) (zig_lt (by omega) (by omega))
      exact ⟨by rw [List.length_append]; omega, fun b hb => (List.mem_append.1 hb).elim (num_lt _ b) (num_lt _ b)⟩
  exact ⟨by rw [List.length_append]; omega, fun b hb => (List.mem_append.1 hb).elim (hF.2 b) (txt_lt _ b)⟩
theorem body_fit {rows : List CRow} (h : ∀ j, j < rows.length → okAt rows j) : ∀ k, k ≤ rows.length → (bodyK rows k).length ≤ 1048 * k ∧ ∀ b ∈ bodyK rows k, b < 256
  | 0, _ => ⟨by simp [bodyK], by simp [bodyK]⟩
  | k + 1, hk => by
    have ih := body_fit h k (by omega)
    have hr := rowJ_fit (h k (by omega)) (fun _ => (h (k - 1) (by omega)).1)
    exact ⟨by show (bodyK rows k ++ rowJ rows k).length ≤ _; rw [List.length_append]; omega, fun b hb => (List.mem_append.1 (show b ∈ bodyK rows k ++ rowJ rows k from hb)).elim (ih.2 b) (hr.2 b)⟩
theorem chB_fit {labs : List Lab} {rows : List CRow} (hf : chR labs rows = true) : 0 < (chB labs rows).length ∧ (chB labs rows).length ≤ 2097152 ∧ ∀ c ∈ chB labs rows, c < 256 := by
  obtain ⟨⟨n1, n2⟩, hr, hok⟩ := (chR_iff labs rows).1 hf
  have hb := body_fit hok rows.length (Nat.le_refl _)
  have hbl := bytesN_len hr
  have ht := txt_len2 (str (bytesN labs)) (by rw [str_len]; omega)
  rw [str_len] at ht
  have hp := txt_pos (str (bytesN labs))
  have hn := num_len8 (n := rows.length) (by omega)
  have hm : 1048 * rows.length ≤ 1048 * 1000 := Nat.mul_le_mul_left _ n2
  rw [chB_body labs rows n1]
  refine ⟨by rw [List.length_append]; omega, by rw [List.length_append, List.length_append]; omega, fun c hc => ?_⟩
  rcases List.mem_append.1 hc with hc | hc
  · exact txt_lt _ c hc
  · rcases List.mem_append.1 hc with hc | hc
    · exact num_lt _ c hc
    · exact hb.2 c hc
theorem rd_front {w : World} {A : Option Addr} {c : Nat} {l : List Nat} (h : Go.Icz.Rd w (.slice A l.length c) l) (k : Nat) (hk : k ≤ l.length) : Go.Icz.Rd w (sliced A 0 k c 1) (l.take k) := by
  have h2 : ∃ b0, RdAt w b0 (.slice A l.length c) l := by
    obtain ⟨A', c', hv, hc, hr⟩ := h
    injection hv with e1 e2 e3
    subst e1 e3
    by_cases h0 : 0 < l.length
    · obtain ⟨b, off, rfl, hb, hcell⟩ := hr h0
      exact ⟨b, _, _, rfl, hc, fun _ => ⟨off, rfl, hb, hcell⟩⟩
    · exact ⟨0, A, c, rfl, hc, fun h => absurd h h0⟩
  obtain ⟨b0, h2⟩ := h2
  have h3 := (h2.slice 0 k (Nat.zero_le _) hk).rd
  simpa using h3
theorem run_front {A : Option Addr} {n c : Nat} (hi : Int) (k : Nat) (hk : hi = (k : Int)) (h2 : k ≤ c) (wx : World) : (Instr.slice 26 (.slice A n c) none (some (.int .i64 hi)) none).run Tryd.prog wx = .ok (sliced A 0 k c 1) wx := by
  subst hk
  have := run_slice_h (P := Tryd.prog) (w := wx) 26 A n c Tryd.underlying26 .i64 (k : Int) (by omega) (by omega)
  rw [this]
  have hz : (sizeOf (Tryd.prog.elem 26)).run Tryd.prog wx = .ok 1 wx := by go_simp
  rw [hz]
  simp [Result.andThen]
theorem back_no (labs : List Lab) (rows : List CRow) (A A2 : Option Addr) (C C2 : Nat) (w : World) (hL : RdL w (.slice A labs.length C) labs) (hR : KRr.Rd w (.slice A2 rows.length C2) rows) (hlz : labs.length * 32 ≤ 140737488351232) (hrz : rows.length * 32 ≤ 140737488351232) (hls : ∀ y ∈ labs, y.1.length ≤ 9223372036854775807 ∧ y.2.length ≤ 9223372036854775807) (hz : ∀ x ∈ rows, entZ (entC labs x)) (hT : Tabs w) (hf : chR labs rows = false) :
    Calls Tryd.prog 4 #[.agg #[.slice A labs.length C, .slice A2 rows.length C2]] w fun e w' => e = .returned (.bool true) ∧ Below w.heap.size w w' := by
  obtain ⟨W0, hW0⟩ : ∃ W0, W0 = w.alloc (.cells #[.slice A labs.length C, .slice A2 rows.length C2] 25) := ⟨_, rfl⟩
  have b0 : Below w.heap.size w W0 := by rw [hW0]; exact (Below.refl _ w).alloc (Nat.le_refl _) _
  have x0 : W0.heap[w.heap.size]? = some (.cells #[.slice A labs.length C, .slice A2 rows.length C2] 25 (0, 0)) := by rw [hW0]; exact heap_alloc_new w _
  have hO := COwn_is labs rows A A2 C C2 _ (hL.below b0) (hR.below b0) hlz hrz
  unfold ChOut at hO
  have cl0 : ∀ wx, Below W0.heap.size W0 wx → wx.cell? ⟨w.heap.size, 0, none⟩ = some (.slice A labs.length C) ∧ wx.cell? ⟨w.heap.size, 1, none⟩ = some (.slice A2 rows.length C2) := fun wx bx => by
    have y := (bx.block _ (row_lt x0)).trans x0
    exact ⟨held_cell y rfl, held_cell y rfl⟩
  have hRR := fun wx (bx : Below W0.heap.size W0 wx) => R4Right_is labs rows A A2 C C2 wx ((hL.below b0).below bx) ((hR.below b0).below bx) hlz hls
  have hP := fun A C A2 C2 wx (hL : RdL wx (.slice A labs.length C) labs) (hR : KRw.Rd wx (.slice A2 rows.length C2) rows) (hT : Tabs wx) => Put_no labs rows A A2 C C2 wx hL hR hT hz (by omega) hf
  rw [hf] at hRR
  have HRR := hid hRR
  have HP := hid hP
  have HT := hid (hT.below b0)
  have HB0 := hid b0
  have HCL0 := hid cl0
  obtain ⟨e0, e1⟩ := cl0 W0 (Below.refl _ _)
  rw [hW0] at hO e0 e1
  clear hT hL hR hlz hrz hls hz hP hRR b0 x0 cl0
  go_enter Tryd.func4, Tryd.ntmps4
  go_upto_region 2 with (first
    | (go_at_call 6; refine hO.mono ?_; rintro e w1 ⟨A1, c1, A3, c3, rfl, o1, o3, b1⟩; clear hO e0 e1; rw [← hW0] at b1 o1 o3))
  clear hW0
  obtain ⟨W1, hW1⟩ : ∃ W1, W1 = w1.alloc (.cells #[.slice A1 labs.length c1, .slice A3 rows.length c3] 30) := ⟨_, rfl⟩
  have b2 : Below w1.heap.size w1 W1 := by rw [hW1]; exact (Below.refl _ w1).alloc (Nat.le_refl _) _
  have x2 : W1.heap[w1.heap.size]? = some (.cells #[.slice A1 labs.length c1, .slice A3 rows.length c3] 30 (0, 0)) := by rw [hW1]; exact heap_alloc_new w1 _
  have b01 : Below W0.heap.size W0 W1 := b1.trans (b2.mono b1.size)
  have f2 := held_cell (i := 0) x2 rfl
  have f3 := held_cell (i := 1) x2 rfl
  have hP1 := HP.out A1 c1 A3 c3 W1 (o1.rd.below b2) (o3.rd.below b2) (HT.out.below b01)
  have B01 := hid b01
  clear x2 b01 b2 b1 o1 o3
  rw [← hW1]
  clear hW1
  go_upto_region 3 with (first
    | (go_at_call 7; refine hP1.mono ?_; rintro e w2 ⟨rfl, b2⟩; clear hP1))
  have b02 : Below W0.heap.size W0 w2 := B01.out.trans (b2.mono B01.out.size)
  obtain ⟨h0, h1⟩ := HCL0.out w2 b02
  have hr2 := HRR.out w2 b02
  have B02 := hid b02
  clear f2 f3 b2 b02
  go_wp2_with (first
    | (go_at_call 13; refine (num4_is _ _).mono ?_; rintro e w6 ⟨rfl, rfl⟩)
    | (go_at_call 12; refine hr2.mono ?_; rintro e w7 ⟨rfl, b7⟩; have B7 := hid (B02.out.trans (b7.mono B02.out.size)); clear hr2)
    | (go_at_call 16; refine (knows4_is _ (HT.out.below B7.out)).mono ?_; rintro e w9 ⟨rfl, b9⟩; have B9 := hid (B7.out.trans (b9.mono B7.out.size)); clear b9))
  go_ret
  exact ⟨rfl, HB0.out.trans (B9.out.mono HB0.out.size)⟩
theorem back_yes (labs : List Lab) (rows : List CRow) (A A2 : Option Addr) (C C2 : Nat) (w : World) (hL : RdL w (.slice A labs.length C) labs) (hR : KRr.Rd w (.slice A2 rows.length C2) rows) (hlz : labs.length * 32 ≤ 140737488351232) (hrz : rows.length * 32 ≤ 140737488351232) (hz : ∀ x ∈ rows, entZ (entC labs x)) (hT : Tabs w) (hf : chR labs rows = true) :
    Calls Tryd.prog 4 #[.agg #[.slice A labs.length C, .slice A2 rows.length C2]] w fun e w' => e = .returned (.bool true) ∧ Below w.heap.size w w' := by
  obtain ⟨W0, hW0⟩ : ∃ W0, W0 = w.alloc (.cells #[.slice A labs.length C, .slice A2 rows.length C2] 25) := ⟨_, rfl⟩
  have b0 : Below w.heap.size w W0 := by rw [hW0]; exact (Below.refl _ w).alloc (Nat.le_refl _) _
  have x0 : W0.heap[w.heap.size]? = some (.cells #[.slice A labs.length C, .slice A2 rows.length C2] 25 (0, 0)) := by rw [hW0]; exact heap_alloc_new w _
  have hO := COwn_is labs rows A A2 C C2 _ (hL.below b0) (hR.below b0) hlz hrz
  unfold ChOut at hO
  have cl0 : ∀ wx, Below W0.heap.size W0 wx → wx.cell? ⟨w.heap.size, 0, none⟩ = some (.slice A labs.length C) ∧ wx.cell? ⟨w.heap.size, 1, none⟩ = some (.slice A2 rows.length C2) := fun wx bx => by
    have y := (bx.block _ (row_lt x0)).trans x0
    exact ⟨held_cell y rfl, held_cell y rfl⟩
  have hP := fun A C A2 C2 wx (hL : RdL wx (.slice A labs.length C) labs) (hR : KRw.Rd wx (.slice A2 rows.length C2) rows) (hT : Tabs wx) => Put_yes labs rows A A2 C C2 wx hL hR hT hz (by omega) hf
  have hSm := fun A3 C3 A4 C4 wx (h1 : RdL wx (.slice A3 labs.length C3) labs) (h2 : KRw.Rd wx (.slice A4 rows.length C4) rows) (bx : Below W0.heap.size W0 wx) => CSame_refl labs rows A3 A4 A A2 C3 C4 C C2 wx h1 h2 ((hL.below b0).below bx) ((hR.below b0).below bx) (by omega) (by omega)
  obtain ⟨B, hB⟩ : ∃ B, B = chB labs rows := ⟨_, rfl⟩
  obtain ⟨f1, f2, f3⟩ := chB_fit hf
  have g1 := getC_back hf
  have g2 := getC_less hf
  rw [← hB] at f1 f2 f3 g1 g2
  rw [← hB] at hP
  have hG := fun v wx (h : Go.Icz.Rd wx v B) (t : Tabs wx) => CGet_is v B wx h f3 (by omega) t
  rw [g1] at hG
  have hG2 := fun v wx (h : Go.Icz.Rd wx v (B.take (B.length - 1))) (t : Tabs wx) => CGet_is v (B.take (B.length - 1)) wx h (fun c hc => f3 c (List.mem_of_mem_take hc)) (by rw [List.length_take]; omega) t
  rw [g2] at hG2
  unfold CgOut at hG hG2
  simp only at hG hG2
  have HP := hid hP
  have HSM := hid hSm
  have HG := hid hG
  have HG2 := hid hG2
  have HF := hid (And.intro f1 f2)
  have HT := hid (hT.below b0)
  have HB0 := hid b0
  have HCL0 := hid cl0
  obtain ⟨e0, e1⟩ := cl0 W0 (Below.refl _ _)
  rw [hW0] at hO e0 e1
  clear hT hL hR hlz hrz hz hP hSm hG hG2 f1 f2 f3 g1 g2 hB b0 x0 cl0
  go_enter Tryd.func4, Tryd.ntmps4
  go_upto_region 2 with (first
    | (go_at_call 6; refine hO.mono ?_; rintro e w1 ⟨A1, c1, A3, c3, rfl, o1, o3, b1⟩; clear hO e0 e1; rw [← hW0] at b1 o1 o3))
  clear hW0
  obtain ⟨W1, hW1⟩ : ∃ W1, W1 = w1.alloc (.cells #[.slice A1 labs.length c1, .slice A3 rows.length c3] 30) := ⟨_, rfl⟩
  have b2 : Below w1.heap.size w1 W1 := by rw [hW1]; exact (Below.refl _ w1).alloc (Nat.le_refl _) _
  have x2 : W1.heap[w1.heap.size]? = some (.cells #[.slice A1 labs.length c1, .slice A3 rows.length c3] 30 (0, 0)) := by rw [hW1]; exact heap_alloc_new w1 _
  have b01 : Below W0.heap.size W0 W1 := b1.trans (b2.mono b1.size)
  have f2 := held_cell (i := 0) x2 rfl
  have f3 := held_cell (i := 1) x2 rfl
  have hP1 := HP.out A1 c1 A3 c3 W1 (o1.rd.below b2) (o3.rd.below b2) (HT.out.below b01)
  have B01 := hid b01
  clear x2 b01 b2 b1 o1 o3
  rw [← hW1]
  clear hW1
  go_upto_region 3 with (first
    | (go_at_call 7; refine hP1.mono ?_; rintro e w2 ⟨v2, rfl, o2, b2⟩; clear hP1))
  have b02 : Below W0.heap.size W0 w2 := B01.out.trans (b2.mono B01.out.size)
  have B02 := hid b02
  have rb := kb_rd o2.rd
  obtain ⟨Ab, cb, rfl, hcb, -⟩ := id rb
  have RB := hid rb
  have HCB := hid hcb
  have hne : ((B.length : Int) == 0) = false := by have := HF.out; simp; intro h; simp [h] at this
  have hg := HG.out _ w2 rb (HT.out.below b02)
  clear f2 f3 b2 b02 o2 rb hcb
  go_upto_region 6 with (first
    | (go_at_call 13; refine (num4_is _ _).mono ?_; rintro e w6 ⟨rfl, rfl⟩)
    | (go_at_call 9; refine hg.mono ?_; rintro e w3 ⟨A5, c5, A6, c6, rfl, rl5, rr6, b3⟩; clear hg))
  obtain ⟨W3, hW3⟩ : ∃ W3, W3 = w3.alloc (.cells #[.slice A5 labs.length c5, .slice A6 rows.length c6] 30) := ⟨_, rfl⟩
  have b4 : Below w3.heap.size w3 W3 := by rw [hW3]; exact (Below.refl _ w3).alloc (Nat.le_refl _) _
  have x4 : W3.heap[w3.heap.size]? = some (.cells #[.slice A5 labs.length c5, .slice A6 rows.length c6] 30 (0, 0)) := by rw [hW3]; exact heap_alloc_new w3 _
  have b03 : Below W0.heap.size W0 W3 := B02.out.trans ((b3.trans (b4.mono b3.size)).mono B02.out.size)
  have hBk := rd_front (RB.out.below (b3.trans (b4.mono b3.size))) (B.length - 1) (by omega)
  have hg2 := HG2.out _ W3 hBk (HT.out.below b03)
  have B03 := hid b03
  have X4 := hid x4
  have RL := hid (rl5.below b4)
  have RR := hid (rr6.below b4)
  have rf := fun wx => run_front (A := Ab) (n := B.length) (c := cb) ((B.length : Int) - 1) (B.length - 1) (by have := HF.out; omega) (by have := HCB.out; omega) wx
  have hl1 : B.length ≤ 2097152 := HF.out.2
  have hl0 : 0 < B.length := HF.out.1
  generalize sliced Ab 0 (B.length - 1) cb 1 = sb at hg2 rf
  simp only [List.length_nil] at hg2
  rw [← hW3]
  clear hW3 b3 b4 x4 b03 hBk rl5 rr6
  go_upto_region 7 with (first
    | (go_at_call 9; refine hg2.mono ?_; rintro e w4 ⟨A7, c7, A8, c8, rfl, -, -, b5⟩; clear hg2))
  obtain ⟨W4, hW4⟩ : ∃ W4, W4 = w4.alloc (.cells #[.slice A7 0 c7, .slice A8 0 c8] 30) := ⟨_, rfl⟩
  have b5' : Below w4.heap.size w4 W4 := by rw [hW4]; exact (Below.refl _ w4).alloc (Nat.le_refl _) _
  rw [← hW4]
  clear hW4 rf hl1 hl0
  have bx : Below W3.heap.size W3 W4 := b5.trans (b5'.mono b5.size)
  have y := (bx.block _ (row_lt X4.out)).trans X4.out
  have q0 := held_cell (i := 0) y rfl
  have q1 := held_cell (i := 1) y rfl
  have b04 : Below W0.heap.size W0 W4 := B03.out.trans (bx.mono B03.out.size)
  obtain ⟨h0, h1⟩ := HCL0.out W4 b04
  have hS := HSM.out A5 c5 A6 c6 W4 (RL.out.below bx) (RR.out.below bx) b04
  have B04 := hid b04
  clear y bx b04 b5 b5' hne
  go_wp2_with (first
    | (go_at_call 13; refine (num4_is _ _).mono ?_; rintro e w6 ⟨rfl, rfl⟩)
    | (go_at_call 14; refine hS.mono ?_; rintro e w7 ⟨rfl, b7⟩; have B7 := hid (B04.out.trans (b7.mono B04.out.size)); clear hS b7)
    | (go_at_call 16; refine (knows4_is _ (HT.out.below B7.out)).mono ?_; rintro e w9 ⟨rfl, b9⟩; have B9 := hid (B7.out.trans (b9.mono B7.out.size)); clear b9))
  go_ret
  exact ⟨rfl, HB0.out.trans (B9.out.mono HB0.out.size)⟩
theorem back_walk (labs : List Lab) (rows : List CRow) (A A2 : Option Addr) (C C2 : Nat) (w : World) (hL : RdL w (.slice A labs.length C) labs) (hR : KRr.Rd w (.slice A2 rows.length C2) rows) (hlz : labs.length * 32 ≤ 140737488351232) (hrz : rows.length * 32 ≤ 140737488351232) (hls : ∀ y ∈ labs, y.1.length ≤ 9223372036854775807 ∧ y.2.length ≤ 9223372036854775807) (hz : ∀ x ∈ rows, entZ (entC labs x)) (hT : Tabs w) :
    Calls Tryd.prog 4 #[.agg #[.slice A labs.length C, .slice A2 rows.length C2]] w fun e w' => e = .returned (.bool true) ∧ Below w.heap.size w w' := by
  cases hf : chR labs rows
  · exact back_no labs rows A A2 C C2 w hL hR hlz hrz hls hz hT hf
  · exact back_yes labs rows A A2 C C2 w hL hR hlz hrz hz hT hf
end Go.Proofs.YthabkfmcbihbfaaDoor
end
