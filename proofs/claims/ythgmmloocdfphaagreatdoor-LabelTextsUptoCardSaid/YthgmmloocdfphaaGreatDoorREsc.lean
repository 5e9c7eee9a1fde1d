/-
  What the reference's escape answers. Conditions: those that each theorem names.
-/
import Derived.Test.YthgmmloocdfphaaGreatDoorRQuote
namespace Go.Proofs.YthgmmloocdfphaaGreatDoor
open Go.RowKit Go.Icz

/-- How escape ends. -/
def EscOut (o : Option (Nat × Nat)) (e : Ending) : Prop :=
  match o with
  | some (c, k) => e = .returned (.tuple #[.int .u8 (c : Int), .int .i64 (k : Int)])
  | none => e = .returned (.tuple #[.int .u8 0, .int .i64 0])
theorem want_str (k : Nat) : ({ data := #[117, 123] } : ByteArray) ++ str (hexN k) ++ { data := #[125] } = ⟨(wantS k).toArray⟩ := by
  rw [str_mk, ← show (⟨([117, 123] : B8).toArray⟩ : ByteArray) = { data := #[117, 123] } from rfl, ← show (⟨([125] : B8).toArray⟩ : ByteArray) = { data := #[125] } from rfl, app_mk, app_mk]
  rfl
theorem wantS_len {k : Nat} (h : k < 128) : (wantS k).length ≤ 5 ∧ 3 ≤ (wantS k).length := by
  have h1 := hexN_two (n := k) (by omega)
  unfold wantS
  simp only [List.length_append, List.length_cons, List.length_nil, List.length_map]
  omega
theorem prefix_ext (t : ByteArray) (q : B8) (_h : q.length ≤ t.size) : (t.extract 0 q.length = ⟨q.toArray⟩) ↔ Lib.hasPrefix t.data.toList q = true := by
  have e : (t.extract 0 q.length).data.toList = t.data.toList.take q.length := by simp
  constructor
  · intro hh
    have e2 : t.data.toList.take q.length = q := by rw [← e, hh]
    exact (hasPrefix_iff _ _).2 ⟨t.data.toList.drop q.length, by conv => lhs; rw [← List.take_append_drop q.length t.data.toList, e2]⟩
  · intro hh
    obtain ⟨u, hu⟩ := (hasPrefix_iff _ _).1 hh
    have e2 : t.data.toList.take q.length = q := by rw [hu, List.take_left]
    rw [e2] at e
    rw [← mk_data (t.extract 0 q.length), e]
theorem toList_data (t : ByteArray) : t.toList = t.data.toList := ByteArray.toList_eq t
theorem ext_of {t : ByteArray} {q : B8} (h : t.toList = q) : t = ⟨q.toArray⟩ := by
  rw [← h, toList_data, mk_data]
theorem of_ext {t : ByteArray} {q : B8} (h : t = ⟨q.toArray⟩) : t.toList = q := by
  rw [toList_data, h]
theorem prefix_short {l q : B8} (h : l.length < q.length) : Lib.hasPrefix l q = false := by
  cases hx : Lib.hasPrefix l q with
  | false => rfl
  | true =>
    obtain ⟨u, hu⟩ := (hasPrefix_iff _ _).1 hx
    have := congrArg List.length hu
    rw [List.length_append] at this
    omega
/-- The hits from k on. -/
def hits (l : B8) (k : Nat) : Option Nat := ((List.range 128).drop k).find? fun c => ctl c && Lib.hasPrefix l (wantS c)
theorem hits_step (l : B8) {k : Nat} (h : k < 128) : hits l k = if (ctl k && Lib.hasPrefix l (wantS k)) = true then some k else hits l (k + 1) := by
  unfold hits
  rw [List.drop_eq_getElem_cons (by simpa using h), List.find?_cons]
  simp only [List.getElem_range]
  split
  · rename_i hh; rw [hh]; rfl
  · rename_i hh; rw [if_neg (by rw [hh]; simp)]
theorem hits_end (l : B8) : hits l 128 = none := by
  unfold hits
  rw [List.drop_of_length_le (by simp)]
  rfl
set_option maxHeartbeats 4000000 in
set_option maxRecDepth 100000 in
theorem REsc_is (t : ByteArray) (w : World) (hs : t.size ≤ 140737488355328) :
    Calls Tryz.prog 116 #[.string t] w fun e w' => EscOut (escS t.data.toList) e ∧ Below w.heap.size w w' := by
  by_cases h0 : t.size = 0
  · have ht : t = ⟨#[]⟩ := by
      obtain ⟨⟨l⟩⟩ := t
      cases l with
      | nil => rfl
      | cons _ _ => simp [ByteArray.size] at h0
    subst ht
    go_enter Tryz.func116, Tryz.ntmps116
    go_wp2
    go_ret2
    exact ⟨rfl, Below.refl _ _⟩
  have hpos : 0 < t.size := by omega
  have hd : ∃ u, t.data.toList = t[0] :: u := by
    cases hl : t.data.toList with
    | nil => rw [← size_len, hl] at hpos; simp at hpos
    | cons b u =>
      refine ⟨u, ?_⟩
      congr 1
      have e : t.data.toList[0]? = some t[0] := by
        rw [List.getElem?_eq_getElem (by rw [size_len]; exact hpos)]
        rfl
      rw [hl] at e
      simpa using e
  obtain ⟨u, hu⟩ := hd
  have HE : Hid (escS t.data.toList = if t[0] = 34 ∨ t[0] = 92 then some ((t[0]).toNat, 1) else if t[0] = 110 then some (10, 1) else (hits t.data.toList 0).map fun c => (c, (wantS c).length)) := hid (by
    rw [hu, escS_cons]
    rfl)
  have e1 := toNat_lit (c := t[0]) (n := 34) (by omega)
  have e2 := toNat_lit (c := t[0]) (n := 92) (by omega)
  have e3 := toNat_lit (c := t[0]) (n := 110) (by omega)
  have k1 : (UInt8.ofNat 34) = 34 := rfl
  have k2 : (UInt8.ofNat 92) = 92 := rfl
  have k3 : (UInt8.ofNat 110) = 110 := rfl
  rw [k1] at e1; rw [k2] at e2; rw [k3] at e3
  have hne : ((t.size : Int) == 0) = false := beq_eq_false_iff_ne.2 (by omega)
  by_cases h34 : (t[0]).toNat = 34
  · have HS : Hid (escS t.data.toList = some (34, 1)) := hid (by rw [HE.out, if_pos (.inl (e1.2 h34)), h34])
    have f1 : (((t[0]).toNat : Int) == 34) = true := by simp; omega
    clear HE e1 e2 e3 hu
    go_enter Tryz.func116, Tryz.ntmps116
    go_wp2
    go_ret2
    exact ⟨by rw [HS.out]; first | rfl | (rw [h34]; rfl), Below.refl _ _⟩
  have f1 : (((t[0]).toNat : Int) == 34) = false := by simp; omega
  by_cases h92 : (t[0]).toNat = 92
  · have HS : Hid (escS t.data.toList = some (92, 1)) := hid (by rw [HE.out, if_pos (.inr (e2.2 h92)), h92])
    have f2 : (((t[0]).toNat : Int) == 92) = true := by simp; omega
    clear HE e1 e2 e3 hu
    go_enter Tryz.func116, Tryz.ntmps116
    go_wp2
    go_ret2
    exact ⟨by rw [HS.out]; first | rfl | (rw [h92]; rfl), Below.refl _ _⟩
  have f2 : (((t[0]).toNat : Int) == 92) = false := by simp; omega
  by_cases h110 : (t[0]).toNat = 110
  · have HS : Hid (escS t.data.toList = some (10, 1)) := hid (by rw [HE.out, if_neg (by rw [e1, e2]; omega), if_pos (e3.2 h110)])
    have f3 : (((t[0]).toNat : Int) == 110) = true := by simp; omega
    clear HE e1 e2 e3 hu
    go_enter Tryz.func116, Tryz.ntmps116
    go_wp2
    go_ret2
    exact ⟨by rw [HS.out]; rfl, Below.refl _ _⟩
  have f3 : (((t[0]).toNat : Int) == 110) = false := by simp; omega
  have HS : Hid (escS t.data.toList = (hits t.data.toList 0).map fun c => (c, (wantS c).length)) := hid (by rw [HE.out, if_neg (by rw [e1, e2]; omega), if_neg (by rw [e3]; omega)])
  have hln : t.data.toList.length = t.size := size_len t
  clear HE e1 e2 e3 hu h34 h92 h110
  go_enter Tryz.func116, Tryz.ntmps116
  go_wp2
  go_loopw [4] (fun iv wr => ∃ (k : Nat), iv = .int .i64 k ∧ k ≤ 128 ∧ Below w.heap.size w wr ∧ Hid (hits t.data.toList 0 = hits t.data.toList k)) (fun iv _ => 128 - (intOf iv).toNat)
  case atStart => exact ⟨0, rfl, by omega, Below.refl _ _, hid rfl⟩
  case round =>
    obtain ⟨k, rfl, hk, hb, HX⟩ := hrel
    clear f1 f2 f3
    by_cases hlt : k < 128
    · have hst := hits_step t.data.toList hlt
      cases hc : ctl k with
      | false =>
        rw [hc] at hst
        simp only [Bool.false_and, Bool.false_eq_true, if_false] at hst
        have HX2 : Hid (hits t.data.toList 0 = hits t.data.toList (k + 1)) := hid (by rw [HX.out, hst])
        have hc2 : (32 ≤ k ∧ k ≠ 127) ∨ k = 10 := by
          simp only [ctl, decide_eq_false_iff_not] at hc
          omega
        clear hst hc
        rcases hc2 with ⟨c1, c2⟩ | rfl
        · have g1 : ((k : Int) == 127) = false := by simp; omega
          have g2 : ((k : Int) != 127) = true := by simp; omega
          have g3 : (32 : Int) ≤ k := by omega
          go_wp2
          refine ⟨⟨k + 1, by go_num, by omega, hb, HX2⟩, ?_⟩
          simp [intOf]
          omega
        · go_wp2
          refine ⟨⟨11, by go_num, by omega, hb, HX2⟩, ?_⟩
          simp [intOf]
      | true =>
        rw [hc] at hst
        simp only [Bool.true_and] at hst
        have hws := want_str k
        have hwl := wantS_len hlt
        have HR := fun w => RHex_is k (by omega) w
        have hsz2 : (str (hexN k)).size ≤ 2 := by
          have := hexN_two (n := k) (by omega)
          rw [str, Lib.size_mk, List.length_map]
          exact this
        have hpx := prefix_ext t (wantS k)
        have hps := prefix_short (l := t.data.toList) (q := wantS k)
        have hwz : (⟨(wantS k).toArray⟩ : ByteArray).size = (wantS k).length := Lib.size_mk _
        have hck : (k < 32 ∧ k ≠ 10) ∨ k = 127 := by
          simp only [ctl, decide_eq_true_eq] at hc
          omega
        generalize str (hexN k) = x at *
        generalize hQ : wantS k = q at *
        have hov1 : ¬ 9223372036854775807 < 2 + x.size := by omega
        have hov2 : ¬ 9223372036854775807 < 2 + x.size + 1 := by omega
        have hmv : ∀ e, EscOut (escS t.data.toList) e → EscOut (escS t.data.toList) e := fun _ h => h
        by_cases hlen : t.size < q.length
        · have hf := hps (by omega)
          rw [hf] at hst
          simp only [Bool.false_eq_true, if_false] at hst
          have HX2 : Hid (hits t.data.toList 0 = hits t.data.toList (k + 1)) := hid (by rw [HX.out, hst])
          have hlen2 : ¬ (q.length : Int) ≤ t.size := by omega
          clear hst hc hpx hps hQ hf hmv
          rcases hck with ⟨c1, c2⟩ | rfl
          · have g1 : ((k : Int) == 10) = false := by simp; omega
            have g3 : ¬ (32 : Int) ≤ k := by omega
            go_wp2_with (go_at_call 88; refine (HR _).mono ?_; rintro e w3 ⟨rfl, b3⟩)
            exact ⟨⟨k + 1, by go_num, by omega, hb.trans (b3.mono hb.size), HX2⟩, by simp [intOf]; omega⟩
          · go_wp2_with (go_at_call 88; refine (HR _).mono ?_; rintro e w3 ⟨rfl, b3⟩)
            exact ⟨⟨128, by go_num, by omega, hb.trans (b3.mono hb.size), HX2⟩, by simp [intOf]⟩
        · have hpx := hpx (by omega)
          have hlen2 : (q.length : Int) ≤ t.size := by omega
          cases hh : Lib.hasPrefix t.data.toList q with
          | false =>
            rw [hh] at hst hpx
            simp only [Bool.false_eq_true, if_false, iff_false] at hst hpx
            have heq : ((t.extract 0 q.length).toList == q) = false := by
              rw [beq_eq_false_iff_ne]
              exact fun h => hpx (ext_of h)
            have HX2 : Hid (hits t.data.toList 0 = hits t.data.toList (k + 1)) := hid (by rw [HX.out, hst])
            clear hst hc hps hQ hh hmv
            rcases hck with ⟨c1, c2⟩ | rfl
            · have g1 : ((k : Int) == 10) = false := by simp; omega
              have g3 : ¬ (32 : Int) ≤ k := by omega
              go_wp2_with (go_at_call 88; refine (HR _).mono ?_; rintro e w3 ⟨rfl, b3⟩)
              exact ⟨⟨k + 1, by go_num, by omega, hb.trans (b3.mono hb.size), HX2⟩, by simp [intOf]; omega⟩
            · go_wp2_with (go_at_call 88; refine (HR _).mono ?_; rintro e w3 ⟨rfl, b3⟩)
              exact ⟨⟨128, by go_num, by omega, hb.trans (b3.mono hb.size), HX2⟩, by simp [intOf]⟩
          | true =>
            rw [hh] at hst hpx
            simp only [if_true, iff_true] at hst hpx
            have heq : ((t.extract 0 q.length).toList == q) = true := by
              rw [beq_iff_eq]
              exact of_ext hpx
            have HN : Hid (escS t.data.toList = some (k, q.length)) := hid (by rw [HS.out, HX.out, hst]; simp [hQ])
            clear hst hc hps hQ hh hmv
            rcases hck with ⟨c1, c2⟩ | rfl
            · have g1 : ((k : Int) == 10) = false := by simp; omega
              have g3 : ¬ (32 : Int) ≤ k := by omega
              go_wp2_with (go_at_call 88; refine (HR _).mono ?_; rintro e w3 ⟨rfl, b3⟩)
              go_ret2
              exact ⟨by rw [HN.out]; rfl, hb.trans (b3.mono hb.size)⟩
            · go_wp2_with (go_at_call 88; refine (HR _).mono ?_; rintro e w3 ⟨rfl, b3⟩)
              go_ret2
              exact ⟨by rw [HN.out]; rfl, hb.trans (b3.mono hb.size)⟩
    · obtain rfl : k = 128 := by omega
      have HN : Hid (escS t.data.toList = none) := hid (by rw [HS.out, HX.out, hits_end]; rfl)
      go_wp2
      go_ret2
      exact ⟨by rw [HN.out]; rfl, hb⟩
end Go.Proofs.YthgmmloocdfphaaGreatDoor
