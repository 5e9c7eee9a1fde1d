/-
  The reference's Zig. Conditions: the number is one of 56 bits.
  What was written of a chunk is read again; with one byte less it is none. Conditions: the chunk may be.
  Chunks are read as they were written, one byte less is none: the law's walk. Conditions: those that each theorem names.
-/
import Derived.Test.YtelabmcghahclaaDoorBgt
import Derived.Test.YtelabmcghahclaaDoorHpw
import Derived.Test.YtelabmcghahclaaDoorEntMath
import Derived.Test.YtelabmcghahclaaDoorHrr
import Derived.Test.YtelabmcghahclaaDoorHkn
import Derived.Test.YtelabmcghahclaaDoorHsa
section
namespace Go.Proofs.YtelabmcghahclaaDoor
open Go.RowKit Go.Icz
set_option maxRecDepth 100000
theorem unz_zig (n : Int) : unz (zig n) = n := by unfold unz zig; split <;> split <;> omega
theorem Zig_any (n : Int) (w : World) (h0 : -36028797018963968 ≤ n) (h1 : n < 36028797018963968) :
    Calls Tryd.prog 71 #[.int .i64 n] w fun e w' => e = .returned (.int .i64 (zig n : Int)) ∧ w = w' := by
  by_cases hn : n < 0
  · have hz : Hid ((-2 * n - 1) = (zig n : Int)) := hid (by unfold zig; rw [if_pos hn]; omega)
    go_enter Tryd.func71, Tryd.ntmps71
    go_wp2
    go_ret
    exact ⟨by rw [← hz.out]; rfl, rfl⟩
  · have hz : Hid ((2 * n) = (zig n : Int)) := hid (by unfold zig; rw [if_neg hn]; omega)
    go_enter Tryd.func71, Tryd.ntmps71
    go_wp2
    go_ret
    exact ⟨by rw [← hz.out]; rfl, rfl⟩
end Go.Proofs.YtelabmcghahclaaDoor
end
section
namespace Go.Proofs.YtelabmcghahclaaDoor
open Go.RowKit Go.Icz
/-- The bytes of the j-th row. -/
def rowJ (rows : List CRow) (j : Nat) : List Nat :=
  if j = 0 then num (crAt rows 0).time.toNat ++ num (crAt rows 0).seq.toNat ++ txt ⟨(crAt rows 0).line.toArray⟩ else pairB (crAt rows (j - 1), crAt rows j)
/-- The bytes of the first k rows. -/
def bodyK (rows : List CRow) : Nat → List Nat
  | 0 => []
  | k + 1 => bodyK rows k ++ rowJ rows k
theorem prs_body (rows : List CRow) : ∀ k, k + 1 ≤ rows.length → bodyK rows 1 ++ ((prs rows 0).take k).flatMap pairB = bodyK rows (k + 1)
  | 0, _ => by simp
  | k + 1, h => by
    have ih := prs_body rows k (by omega)
    have hl : (prs rows 0).length = rows.length - 1 := by unfold prs; rw [List.length_zip, List.length_drop, List.length_drop]; omega
    have hk : k < (prs rows 0).length := by omega
    have hg0 : ∀ (l : List (CRow × CRow)) (e : l = (rows.drop 0).zip (rows.drop 1)) (hk' : k < l.length), l[k] = (crAt rows k, crAt rows (k + 1)) := by
      rintro l rfl hk'
      rw [List.getElem_zip, crAt_eq (by omega), crAt_eq (by omega)]
      simp [List.getElem_drop, Nat.add_comm]
    have hg := hg0 (prs rows 0) rfl hk
    rw [List.take_succ_eq_append_getElem hk, List.flatMap_append, ← List.append_assoc, ih, hg]
    show bodyK rows (k + 1) ++ _ = bodyK rows (k + 1) ++ rowJ rows (k + 1)
    unfold rowJ
    rw [if_neg (by omega)]
    simp
theorem chB_body (labs : List Lab) (rows : List CRow) (h : 1 ≤ rows.length) : chB labs rows = txt (str (bytesN labs)) ++ (num rows.length ++ bodyK rows rows.length) := by
  have hl : (prs rows 0).length = rows.length - 1 := by unfold prs; rw [List.length_zip, List.length_drop, List.length_drop]; omega
  have hb := prs_body rows (rows.length - 1) (by omega)
  rw [List.take_of_length_le (by omega), Nat.sub_add_cancel h] at hb
  have h0 : rows.headD ⟨0, 0, []⟩ = crAt rows 0 := by
    rw [crAt_eq (by omega)]
    cases rows with
    | nil => exact absurd h (by decide)
    | cons a t => rfl
  unfold chB headB
  rw [h0, ← hb]
  show _ = _ ++ (_ ++ (([] ++ rowJ rows 0) ++ _))
  unfold rowJ
  rw [if_pos rfl]
  simp
theorem txt_of (s : B8) (h : s.length ≤ 1024) : (⟨s.toArray⟩ : ByteArray).size ≤ 65536 := by rw [Lib.size_mk]; omega
/-- The front of a row's bytes: all but its line. -/
def rowF (rows : List CRow) (j : Nat) : List Nat :=
  if j = 0 then num (crAt rows 0).time.toNat ++ num (crAt rows 0).seq.toNat else num ((crAt rows j).time - (crAt rows (j - 1)).time).toNat ++ num (zig ((crAt rows j).seq - (crAt rows (j - 1)).seq))
theorem rowJ_eq (rows : List CRow) (j : Nat) : rowJ rows j = rowF rows j ++ txt ⟨(crAt rows j).line.toArray⟩ := by
  unfold rowJ rowF pairB
  by_cases h : j = 0
  · subst h; simp
  · rw [if_neg h, if_neg h]
theorem sgnD_zig {n : Int} (r : List Nat) (h0 : -36028797018963968 ≤ n) (h1 : n < 36028797018963968) : sgnD (num (zig n) ++ r) 0 = (n, r, 0) := by
  unfold sgnD
  rw [numD_num r (zig_lt h0 h1), unz_zig]
/-- One row read from where it stands. -/
theorem row_read {rows : List CRow} {j : Nat} (hj : okAt rows j) (hp : 0 < j → rowOk (crAt rows (j - 1))) (R : List CRow) (t s : Int) (ln : B8) (tail : List Nat)
    (ht : t = if j = 0 then 0 else (crAt rows (j - 1)).time) (hs : s = if j = 0 then 0 else (crAt rows (j - 1)).seq) :
    rowStep j ⟨R, t, s, ln, rowF rows j ++ tail, 0⟩ = ⟨R ++ [⟨(crAt rows j).seq, (crAt rows j).time, bt (txtD tail 0).1⟩], (crAt rows j).time, (crAt rows j).seq, bt (txtD tail 0).1, (txtD tail 0).2.1, (txtD tail 0).2.2⟩ := by
  obtain ⟨⟨⟨s1, s2⟩, ⟨u1, u2⟩, l1⟩, h2, -⟩ := hj
  by_cases h0 : j = 0
  · subst h0
    simp only [if_pos] at ht hs
    have e1 := numD_num (n := (crAt rows 0).time.toNat) (num (crAt rows 0).seq.toNat ++ tail) (by omega)
    have e2 := numD_num (n := (crAt rows 0).seq.toNat) tail (by omega)
    have z1 : IntKind.i64.wrap (0 + (((crAt rows 0).time.toNat : Nat) : Int)) = (crAt rows 0).time := by rw [IntKind.wrap_i64] <;> omega
    have z2 : (((crAt rows 0).seq.toNat : Nat) : Int) = (crAt rows 0).seq := by omega
    subst ht hs
    unfold rowStep rowF seqStep
    rw [if_pos rfl, List.append_assoc, e1]
    simp only [if_pos]
    rw [e2]
    simp only
    rw [z1, z2]
  · rw [if_neg h0] at ht hs
    obtain ⟨⟨p1, p2⟩, ⟨v1, v2⟩, -⟩ := hp (by omega)
    have h2 := h2 (by omega)
    have e1 := numD_num (n := ((crAt rows j).time - (crAt rows (j - 1)).time).toNat) (num (zig ((crAt rows j).seq - (crAt rows (j - 1)).seq)) ++ tail) (by omega)
    have e2 := sgnD_zig (n := (crAt rows j).seq - (crAt rows (j - 1)).seq) tail (by omega) (by omega)
    have z1 : IntKind.i64.wrap (t + ((((crAt rows j).time - (crAt rows (j - 1)).time).toNat : Nat) : Int)) = (crAt rows j).time := by rw [ht, IntKind.wrap_i64] <;> omega
    have z2 : IntKind.i64.wrap (s + ((crAt rows j).seq - (crAt rows (j - 1)).seq)) = (crAt rows j).seq := by rw [hs, IntKind.wrap_i64] <;> omega
    unfold rowStep rowF seqStep
    rw [if_neg h0, List.append_assoc, e1]
    simp only [if_neg h0]
    rw [e2]
    simp only
    rw [z1, z2]
/-- The last row's numbers behind k rows. -/
def lastT (rows : List CRow) (k : Nat) : Int := if k = 0 then 0 else (crAt rows (k - 1)).time
def lastQ (rows : List CRow) (k : Nat) : Int := if k = 0 then 0 else (crAt rows (k - 1)).seq
theorem rowsTo_body {rows : List CRow} (h : ∀ j, j < rows.length → okAt rows j) (tail : List Nat) : ∀ k, k ≤ rows.length → ∀ m, ∃ ln, rowsTo (bodyK rows k ++ tail) m k = ⟨rows.take k, lastT rows k, lastQ rows k, ln, tail, 0⟩ ∨ m ≠ 0
  | 0, _, m => ⟨[], by
    by_cases hm : m = 0
    · subst hm; exact .inl (by simp [rowsTo, bodyK, lastT, lastQ])
    · exact .inr hm⟩
  | k + 1, hk, m => by
    by_cases hm : m = 0
    · subst hm
      obtain ⟨ln, hh⟩ := rowsTo_body (rows := rows) h (rowJ rows k ++ tail) k (by omega) 0
      rcases hh with hh | hh
      · refine ⟨(crAt rows k).line, .inl ?_⟩
        have ok := h k (by omega)
        have st := row_read ok (fun h0 => (h (k - 1) (by omega)).1) (rows.take k) (lastT rows k) (lastQ rows k) ln (txt ⟨(crAt rows k).line.toArray⟩ ++ tail) rfl rfl
        rw [txtD_txt _ tail (txt_of _ ok.1.2.2)] at st
        simp only [bt_nats] at st
        show rowStep k (rowsTo ((bodyK rows k ++ rowJ rows k) ++ tail) 0 k) = _
        rw [List.append_assoc, hh, rowJ_eq, List.append_assoc, st]
        have ht : rows.take (k + 1) = rows.take k ++ [crAt rows k] := by rw [List.take_succ_eq_append_getElem (by omega), crAt_eq (by omega)]
        rw [ht]
        unfold lastT lastQ
        rw [if_neg (by omega), if_neg (by omega), Nat.add_sub_cancel]
      · exact absurd rfl hh
    · exact ⟨[], .inr hm⟩
theorem gparts {labs : List Lab} (hr : rightS labs = true) (r : List Nat) : txtD (txt (str (bytesN labs)) ++ r) 0 = (bytesN labs, r, 0) ∧ readS (bytesN labs) = (labs, 0) := by
  have hb := bytesN_len hr
  have h := txtD_txt (str (bytesN labs)) r (by rw [str_len]; omega)
  rw [nats_str _ (bytesN_lt labs)] at h
  exact ⟨h, readS_bytes hr⟩
theorem getC_back {labs : List Lab} {rows : List CRow} (hf : chR labs rows = true) : getC (chB labs rows) = (labs, rows, 0) := by
  obtain ⟨⟨n1, n2⟩, hr, hok⟩ := (chR_iff labs rows).1 hf
  obtain ⟨p1, p2⟩ := gparts hr (num rows.length ++ bodyK rows rows.length)
  have e := chB_body labs rows n1
  have hn := numD_num (n := rows.length) (bodyK rows rows.length) (by omega)
  obtain ⟨ln, hb⟩ := rowsTo_body hok [] rows.length (Nat.le_refl _) 0
  rcases hb with hb | hb
  · rw [List.append_nil, List.take_of_length_le (Nat.le_refl _)] at hb
    have hG : gRows (chB labs rows) = ⟨rows, lastT rows rows.length, lastQ rows rows.length, ln, [], 0⟩ := by
      unfold gRows readR
      rw [e, p1]
      simp only
      rw [hn]
      simp only
      rw [if_neg (by omega), hb]
    have hL : gLabs (chB labs rows) = labs := by unfold gLabs; rw [e, p1, p2]
    have hO : gOk (chB labs rows) = true := by
      unfold gOk
      rw [hG, hL, e, p1]
      simp [p2, hf, doneD]
    unfold getC
    rw [if_pos hO, hG, hL]
  · exact absurd rfl hb
theorem getC_less {labs : List Lab} {rows : List CRow} (hf : chR labs rows = true) : getC ((chB labs rows).take ((chB labs rows).length - 1)) = ([], [], 21) := by
  obtain ⟨⟨n1, n2⟩, hr, hok⟩ := (chR_iff labs rows).1 hf
  obtain ⟨k, hk⟩ : ∃ k, rows.length = k + 1 := ⟨rows.length - 1, by omega⟩
  have okk := hok k (by omega)
  obtain ⟨lt, hlt⟩ : ∃ lt, lt = txt ⟨(crAt rows k).line.toArray⟩ := ⟨_, rfl⟩
  have hpos : 0 < lt.length := by rw [hlt]; exact txt_pos _
  obtain ⟨ct, hct⟩ : ∃ ct, ct = lt.take (lt.length - 1) := ⟨_, rfl⟩
  have hcut : (txtD ct 0).2.2 ≠ 0 := by rw [hct, hlt]; exact txtD_cut _ _ (txt_of _ okk.1.2.2) (by rw [← hlt]; omega)
  have e : (chB labs rows).take ((chB labs rows).length - 1) = txt (str (bytesN labs)) ++ (num rows.length ++ (bodyK rows k ++ (rowF rows k ++ ct))) := by
    have e0 : chB labs rows = (txt (str (bytesN labs)) ++ (num rows.length ++ (bodyK rows k ++ rowF rows k))) ++ lt := by
      rw [chB_body labs rows n1, hk, hlt]
      show _ ++ (_ ++ (bodyK rows k ++ rowJ rows k)) = _
      rw [rowJ_eq]
      simp
    rw [e0, List.take_append, List.take_of_length_le (by simp only [List.length_append]; omega), hct]
    have : ((txt (str (bytesN labs)) ++ (num rows.length ++ (bodyK rows k ++ rowF rows k))) ++ lt).length - 1 - (txt (str (bytesN labs)) ++ (num rows.length ++ (bodyK rows k ++ rowF rows k))).length = lt.length - 1 := by
      rw [List.length_append]; omega
    rw [this]
    simp
  obtain ⟨p1, p2⟩ := gparts hr (num rows.length ++ (bodyK rows k ++ (rowF rows k ++ ct)))
  have hn := numD_num (n := rows.length) (bodyK rows k ++ (rowF rows k ++ ct)) (by omega)
  obtain ⟨ln, hb⟩ := rowsTo_body hok (rowF rows k ++ ct) k (by omega) 0
  rcases hb with hb | hb
  · have st := row_read okk (fun h0 => (hok (k - 1) (by omega)).1) (rows.take k) (lastT rows k) (lastQ rows k) ln ct rfl rfl
    have hE : (gRows ((chB labs rows).take ((chB labs rows).length - 1))).er ≠ 0 := by
      unfold gRows readR
      rw [e, p1]
      simp only
      rw [hn]
      simp only
      rw [if_neg (by omega), hk]
      show (rowStep k (rowsTo (bodyK rows k ++ (rowF rows k ++ ct)) 0 k)).er ≠ 0
      rw [hb, st]
      exact hcut
    have hO : gOk ((chB labs rows).take ((chB labs rows).length - 1)) = false := by
      unfold gOk doneD
      rw [if_pos hE]
      simp [hE]
    unfold getC
    rw [hO]
    rfl
  · exact absurd rfl hb
end Go.Proofs.YtelabmcghahclaaDoor
end
section
namespace Go.Proofs.YtelabmcghahclaaDoor
open Go.RowKit Go.Icz Go.Shelf
attribute [local go_sem] Oper.semAt_some
set_option maxRecDepth 100000
set_option maxHeartbeats 4000000
theorem txt_lt (s : ByteArray) : ∀ b ∈ txt s, b < 256 := fun b h => by
  unfold txt at h
  rcases List.mem_append.1 h with h | h
  · exact num_lt _ b h
  · exact nats_lt s b h
theorem rowJ_fit {rows : List CRow} {j : Nat} (hj : okAt rows j) (hp : 0 < j → rowOk (crAt rows (j - 1))) : (rowJ rows j).length ≤ 1048 ∧ ∀ b ∈ rowJ rows j, b < 256 := by
  obtain ⟨⟨⟨s1, s2⟩, ⟨u1, u2⟩, l1⟩, h2, -⟩ := hj
  have hls : (⟨(crAt rows j).line.toArray⟩ : ByteArray).size = (crAt rows j).line.length := Lib.size_mk _
  have l3 := txt_len2 ⟨(crAt rows j).line.toArray⟩ (by omega)
  rw [rowJ_eq]
  have hF : (rowF rows j).length ≤ 16 ∧ ∀ b ∈ rowF rows j, b < 256 := by
    unfold rowF
    by_cases h0 : j = 0
    · subst h0
      rw [if_pos rfl]
      have a1 := num_len8 (n := (crAt rows 0).time.toNat) (by omega)
      have a2 := num_len8 (n := (crAt rows 0).seq.toNat) (by omega)
      exact ⟨by rw [List.length_append]; omega, fun b hb => (List.mem_append.1 hb).elim (num_lt _ b) (num_lt _ b)⟩
    · rw [if_neg h0]
      obtain ⟨⟨p1, p2⟩, ⟨v1, v2⟩, -⟩ := hp (by omega)
      have h2 := h2 (by omega)
      have a1 := num_len8 (n := ((crAt rows j).time - (crAt rows (j - 1)).time).toNat) (by omega)
      have a2 := num_len8 (n := zig ((crAt rows j).seq - (crAt rows (j - 1)).seq)) (zig_lt (by omega) (by omega))
      exact ⟨by rw [List.length_append]; omega, fun b hb => (List.mem_append.1 hb).elim (num_lt _ b) (num_lt _ b)⟩
  exact ⟨by rw [List.length_append]; omega, fun b hb => (List.mem_append.1 hb).elim (hF.2 b) (txt_lt _ b)⟩
theorem body_fit {rows : List CRow} (h : ∀ j, j < rows.length → okAt rows j) : ∀ k, k ≤ rows.length → (bodyK rows k).length ≤ 1048 * k ∧ ∀ b ∈ bodyK rows k, b < 256
  | 0, _ => ⟨by simp [bodyK], by simp [bodyK]⟩
  | k + 1, hk => by
    have ih := body_fit h k (by omega)
    have hr := rowJ_fit (h k (by omega)) (fun _ => (h (k - 1) (by omega)).1)
    exact ⟨by show (bodyK rows k ++ rowJ rows k).length ≤ _; rw [List.length_append]; omega, fun b hb => (List.mem_append.1 (show b ∈ bodyK rows k ++ rowJ rows k from hb)).elim (ih.2 b) (hr.2 b)⟩
theorem chB_fit {labs : List Lab} {rows : List CRow} (hf : chR labs rows = true) : 0 < (chB labs rows).length ∧ (chB labs rows).length ≤ 2097152 ∧ ∀ c ∈ chB labs rows, c < 256 := by
  obtain ⟨⟨n1, n2⟩, hr, hok⟩ := (chR_iff labs rows).1 hf
  have hb := body_fit hok rows.length (Nat.le_refl _)
  have hbl := bytesN_len hr
  have ht := txt_len2 (str (bytesN labs)) (by rw [str_len]; omega)
  rw [str_len] at ht
  have hp := txt_pos (str (bytesN labs))
  have hn := num_len8 (n := rows.length) (by omega)
  have hm : 1048 * rows.length ≤ 1048 * 1000 := Nat.mul_le_mul_left _ n2
  rw [chB_body labs rows n1]
  refine ⟨by rw [List.length_append]; omega, by rw [List.length_append, List.length_append]; omega, fun c hc => ?_⟩
  rcases List.mem_append.1 hc with hc | hc
  · exact txt_lt _ c hc
  · rcases List.mem_append.1 hc with hc | hc
    · exact num_lt _ c hc
    · exact hb.2 c hc
theorem rd_front {w : World} {A : Option Addr} {c : Nat} {l : List Nat} (h : Go.Icz.Rd w (.slice A l.length c) l) (k : Nat) (hk : k ≤ l.length) : Go.Icz.Rd w (sliced A 0 k c 1) (l.take k) := by
  have h2 : ∃ b0, RdAt w b0 (.slice A l.length c) l := by
    obtain ⟨A', c', hv, hc, hr⟩ := h
    injection hv with e1 e2 e3
    subst e1 e3
    by_cases h0 : 0 < l.length
    · obtain ⟨b, off, rfl, hb, hcell⟩ := hr h0
      exact ⟨b, _, _, rfl, hc, fun _ => ⟨off, rfl, hb, hcell⟩⟩
    · exact ⟨0, A, c, rfl, hc, fun h => absurd h h0⟩
  obtain ⟨b0, h2⟩ := h2
  have h3 := (h2.slice 0 k (Nat.zero_le _) hk).rd
  simpa using h3
theorem run_front {A : Option Addr} {n c : Nat} (hi : Int) (k : Nat) (hk : hi = (k : Int)) (h2 : k ≤ c) (wx : World) : (Instr.slice 26 (.slice A n c) none (some (.int .i64 hi)) none).run Tryd.prog wx = .ok (sliced A 0 k c 1) wx := by
  subst hk
  have := run_slice_h (P := Tryd.prog) (w := wx) 26 A n c Tryd.underlying26 .i64 (k : Int) (by omega) (by omega)
  rw [this]
  have hz : (sizeOf (Tryd.prog.elem 26)).run Tryd.prog wx = .ok 1 wx := by go_simp
  rw [hz]
  simp [Result.andThen]
end Go.Proofs.YtelabmcghahclaaDoor
end
