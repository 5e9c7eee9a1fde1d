/-
  The batch that bytes say: what record.GetBatch answers, of any bytes. Conditions: the slice reads as the bytes.
-/
import Derived.Test.YtffpphigmdehfaaDoorEntGet2
import Derived.Test.YtffpphigmdehfaaDoorEntPutB
import Derived.Test.YtffpphigmdehfaaDoorEntAll2
namespace Go.Icz
open Go.RowKit
/-- One entry more, of a decoder. -/
def stepB (s : List Ent × List Nat × Nat) : Option (List Ent × List Nat × Nat) :=
  if entOk (txtD s.2.1 s.2.2).1 = true then some (s.1 ++ [entOf (txtD s.2.1 s.2.2).1], (txtD s.2.1 s.2.2).2) else none
def entsD (l : List Nat) (er : Nat) : Nat → Option (List Ent × List Nat × Nat)
  | 0 => some ([], l, er)
  | k + 1 => (entsD l er k).bind stepB
theorem entsD_none (l : List Nat) (er k : Nat) (h : entsD l er k = none) : ∀ n, k ≤ n → entsD l er n = none := by
  intro n hn
  obtain ⟨d, rfl⟩ := Nat.le.dest hn
  induction d with
  | zero => exact h
  | succ d ih =>
    have h2 := ih (by omega)
    show (entsD l er (k + d)).bind stepB = none
    rw [h2]
    rfl
/-- The batch that bytes say, if any. -/
def batG (l : List Nat) : Option (List Ent) :=
  if 16 < (numD l 0).1 then none else
  (entsD (numD l 0).2.1 (numD l 0).2.2 (numD l 0).1).bind fun s => if doneD s.2.1 s.2.2 = 0 ∧ batR s.1 = true then some s.1 else none
def batE (l : List Nat) : List Ent := (batG l).getD []
def batN (l : List Nat) : Nat := if (batG l).isSome = true then 0 else 21
theorem OwnE.mono {w : World} {B B' : Nat} {v : Value} {m : List (Ent × Value)} (h : OwnE w B v m) (hB : B' ≤ B) : OwnE w B' v m := by
  obtain ⟨⟨h1, h2⟩, h3⟩ := h
  refine ⟨⟨h1, ?_⟩, fun p hp => (h3 p hp).mono hB⟩
  rcases h2 with h | ⟨g, cap, hv, cur, hg, r⟩
  · exact .inl h
  · exact .inr ⟨g, cap, hv, cur, Nat.le_trans hB hg, r⟩
theorem OwnE.alloc {w : World} {B : Nat} {v : Value} {m : List (Ent × Value)} (h : OwnE w B v m) (o : Obj) : OwnE (w.alloc o) B v m := h.below ((Below.refl _ _).alloc (Nat.le_refl _) o)
theorem OwnE.grown {w w' : World} {B g : Nat} {v : Value} {m : List (Ent × Value)} (h : OwnE w B v m) (hg : w.grownBy w' (some g)) (hB : g < B) : OwnE w' B v m := by
  refine ⟨?_, fun p hp => OwnL.grown (h.2 p hp) hg hB⟩
  refine World.ownsRow.kept h.1 hg ?_
  rcases h.1.2 with ⟨rfl, _⟩ | ⟨k, cap, cur, rfl, hk, _⟩
  · exact .inl rfl
  · exact .inr (by simp [Value.ownBlock]; omega)
end Go.Icz
namespace Go.Proofs.YtffpphigmdehfaaDoor
open Go.RowKit Go.Icz
theorem entOf_z {l : List Nat} (h : l.length ≤ 140737488351232) : entZ (entOf l) := by
  have key : (entParts l).2.2.1.length ≤ l.length ∧ (entParts l).2.2.2.1.length ≤ l.length := by
    unfold entParts
    simp only
    have s1 := (numD_sub l 0).2
    generalize (numD l 0).2 = p1 at *
    have s2 := (numD_sub p1.1 p1.2).2
    generalize (numD p1.1 p1.2).2 = p2 at *
    have s3 := (txtD_sub p2.1 p2.2).2
    generalize txtD p2.1 p2.2 = p3 at *
    have s4 := (txtD_sub p3.2.1 p3.2.2).2
    omega
  have r := readS_sub (entParts l).2.2.1
  refine ⟨?_, ?_, fun y hy => ?_⟩
  · have := r.1
    unfold entOf
    simp only
    omega
  · unfold entOf
    simp only [bt, List.length_map]
    omega
  · have := r.2 y hy
    omega
theorem entsD_sub (l : List Nat) (er : Nat) (hlen : l.length ≤ 140737488351232) : ∀ k s, entsD l er k = some s → s.1.length = k ∧ (∀ c ∈ s.2.1, c ∈ l) ∧ s.2.1.length ≤ l.length ∧ ∀ x ∈ s.1, entZ x
  | 0, s, h => by
    injection h with h
    subst h
    exact ⟨rfl, fun _ h => h, Nat.le_refl _, by simp⟩
  | k + 1, s, h => by
    have h' : (entsD l er k).bind stepB = some s := h
    cases hk : entsD l er k with
    | none => rw [hk] at h'; cases h'
    | some t =>
      rw [hk, Option.bind_some] at h'
      obtain ⟨i1, i2, i3, i4⟩ := entsD_sub l er hlen k t hk
      have h2 := h'
      unfold stepB at h2
      obtain ⟨a1, a2, a3⟩ := txtD_sub t.2.1 t.2.2
      split at h2
      · injection h2 with h2
        subst h2
        refine ⟨by simp [i1], fun c hc => i2 c (a1 c hc), by simp only; omega, fun x hx => ?_⟩
        rcases List.mem_append.1 hx with hx | hx
        · exact i4 x hx
        · obtain rfl := List.mem_singleton.1 hx
          exact entOf_z (by omega)
      · cases h2
/-- What the closure in GetBatch answers: entries and an error. -/
def B1Out (l : List Nat) (w : World) (e : Ending) (w' : World) : Prop :=
  ∃ (m : List (Ent × Value)) (v : Value) (er : Nat), e = .returned (.tuple #[v, .int .i64 (er : Int)]) ∧ OwnE w' w.heap.size v m ∧ ((batG l = some (m.map (·.1)) ∧ er = 0) ∨ (batG l = none ∧ er ≠ 0)) ∧ Below w.heap.size w w'
set_option maxHeartbeats 1000000 in
set_option maxRecDepth 100000 in
theorem EGetB1_is (pb : Nat) (v : Value) (l : List Nat) (w : World) (hp : w.cell? ⟨pb, 0, none⟩ = some v) (hv : Rd w v l) (hl : ∀ c ∈ l, c < 256) (hlen : l.length ≤ 140737488351232) (hT : Tabs w) :
    Calls Tryd.prog 83 #[.pointer (some ⟨pb, 0, none⟩)] w (B1Out l w) := by
  have HN := New_any v l w hv (by omega)
  obtain ⟨A0, c0, rfl, _, _⟩ := hv
  by_cases hbig : 16 < (numD l 0).1
  · have HX : Hid (batG l = none) := hid (by unfold batG; rw [if_pos hbig])
    have hbig' : (16 : Int) < ((numD l 0).1 : Int) := by omega
    clear hbig
    go_enter Tryd.func83, Tryd.ntmps83
    go_wp2_with (first
      | (go_at_call 65; refine HN.mono ?_; rintro e w1 ⟨g, rfl, hg, d1, b1⟩; clear HN)
      | (go_at_call 66; refine (Number_dec _ _ g 0 l _ d1 hl (by omega)).mono ?_; rintro e w2 ⟨rfl, d2, b2⟩))
    go_ret2
    exact ⟨[], _, 21, rfl, OwnE.nil _ _, .inr ⟨HX.out, by decide⟩, b1.grown b2 b1.size (fun k hk => by cases hk; exact hg)⟩
  · have hn16 : (numD l 0).1 ≤ 16 := by omega
    obtain ⟨hs1, hs2⟩ := numD_sub l 0
    have hbig' : ¬ (16 : Int) < ((numD l 0).1 : Int) := by omega
    have HX : Hid (batG l = (entsD (numD l 0).2.1 (numD l 0).2.2 (numD l 0).1).bind fun s => if doneD s.2.1 s.2.2 = 0 ∧ batR s.1 = true then some s.1 else none) := hid (by unfold batG; rw [if_neg hbig])
    have HN2 := fun g w1 (d1 : DecAt w1 w.heap.size w1.heap.size g l 0) => Number_dec _ _ g 0 l w1 d1 hl (by omega)
    have hl1 : ∀ c ∈ (numD l 0).2.1, c < 256 := fun c hc => hl c (hs1 c hc)
    have hlen1 : (numD l 0).2.1.length ≤ 140737488351232 := by omega
    generalize (numD l 0).1 = n at *
    generalize (numD l 0).2.1 = l1 at *
    generalize (numD l 0).2.2 = e1 at *
    clear hbig hs1 hs2 hl hlen
    go_enter Tryd.func83, Tryd.ntmps83
    go_wp2_with (first
      | (go_at_call 65; refine HN.mono ?_; rintro e w1 ⟨g, rfl, hg, d1, b1⟩; clear HN)
      | (go_at_call 66; refine (HN2 _ _ d1).mono ?_; rintro e w2 ⟨rfl, d2, b2'⟩; have b2 := b1.grown b2' b1.size (fun k hk => by cases hk; exact hg); have hB := b2'.size; have hwB := b1.size; clear HN2 d1 b1 b2'))
    generalize w1.heap.size = B at *
    go_loopw [1, 14] (fun lv kv wr => ∃ (k : Nat) (acc : List Ent) (rest : List Nat) (er : Nat) (m : List (Ent × Value)), kv = .int .i64 k ∧ k ≤ n ∧ OwnE wr B lv m ∧ Hid (m.map (·.1) = acc ∧ m.length = k) ∧ DecAt wr w.heap.size B g rest er ∧ Hid (entsD l1 e1 k = some (acc, rest, er)) ∧ Below w.heap.size w wr ∧ B ≤ wr.heap.size) (fun _ kv _ => n - (intOf kv).toNat)
    case atStart => exact ⟨0, [], l1, e1, [], rfl, by omega, OwnE.nil _ _, hid ⟨rfl, rfl⟩, d2, hid rfl, b2, hB⟩
    case round =>
      obtain ⟨k, acc, rest, er, m, rfl, hk, ho, HM, hd, HE, hbw, hBw⟩ := hrel
      obtain ⟨s1, s2, s3, s4⟩ := entsD_sub l1 e1 hlen1 k _ HE.out
      simp only at s1 s2 s3 s4
      by_cases hlt : k < n
      · have hgB : g < B := by obtain ⟨_, _, _, h, _⟩ := hd; exact h.2
        have q1 : ∀ c ∈ rest, c < 256 := fun c hc => hl1 c (s2 c hc)
        have q2 : rest.length ≤ 140737488351232 := by omega
        have T1 := Text_dec _ B g er rest wr hd q1 (by omega)
        obtain ⟨a1, a2, a3⟩ := txtD_sub rest er
        have q3 : ∀ c ∈ (txtD rest er).1, c < 256 := fun c hc => q1 c (txtD_mem rest er c hc)
        have q4 : (txtD rest er).1.length ≤ 140737488351232 := by omega
        have HS : Hid (entsD l1 e1 (k + 1) = if entOk (txtD rest er).1 = true then some (acc ++ [entOf (txtD rest er).1], (txtD rest er).2.1, (txtD rest er).2.2) else none) := hid (by
          show (entsD l1 e1 k).bind stepB = _
          rw [HE.out]
          rfl)
        generalize (txtD rest er).1 = t at *
        generalize (txtD rest er).2.1 = r1 at *
        generalize (txtD rest er).2.2 = er1 at *
        have CV := fun w1 n hn => conv_sb2 (str t) w1 n hn
        rw [nats_str t q3, str_len] at CV
        have G := fun v1 w1 (g : Rd w1 v1 t) (hb : Below w.heap.size w w1) => EGet_is v1 t w1 g q3 q4 (hT.below hb)
        unfold GetOut entV at G
        have hml : (m.length + 1) * 56 ≤ 140737488355328 := by have := HM.out.2; omega
        clear a1 a2 a3 q1 q2 q3 q4 s1 s2 s3 s4 hl1 HE hT
        cases hok : entOk t with
        | false =>
          have HF : Hid (batG l = none) := hid (by
            have h1 := HS.out
            rw [if_neg (by rw [hok]; decide)] at h1
            rw [HX.out, entsD_none l1 e1 (k + 1) h1 n (by omega)]
            rfl)
          have hN := getN_no hok
          rw [hN] at G
          clear hN hok HX HS HM
          generalize getE t = y at *
          go_wp2_with (first
            | (go_at_call 67; go_loud (refine T1.mono ?_; rintro e w3 ⟨rfl, d3, b3⟩; have c3 := hbw.grown b3 hbw.size (fun k hk => by cases hk; exact hg); obtain ⟨cc, cv, crd, cb⟩ := CV w3 w3.heap.size rfl; have G4 := G _ _ crd (c3.trans (cb.mono c3.size)); clear T1 CV G))
            | (go_at_call 18; go_loud (refine G4.mono ?_; rintro e w4 ⟨A4, c4, rfl, r4, b4⟩; have bw4 := (c3.trans (cb.mono c3.size)).trans (b4.mono (c3.trans (cb.mono c3.size)).size); clear G4 cv)))
          go_ret2
          exact ⟨[], _, 21, rfl, OwnE.nil _ _, .inr ⟨HF.out, by decide⟩, bw4.alloc bw4.size _⟩
        | true =>
          have hN := getN_yes hok
          have hE := getE_yes hok
          have HS2 : Hid (entsD l1 e1 (k + 1) = some (acc ++ [entOf t], r1, er1)) := hid (by rw [HS.out, if_pos hok])
          rw [hN, hE] at G
          clear hN hE hok HS
          generalize entOf t = y at *
          go_wp2_with (first
            | (go_at_call 67; go_loud (refine T1.mono ?_; rintro e w3 ⟨rfl, d3, b3⟩; have c3 := hbw.grown b3 hbw.size (fun k hk => by cases hk; exact hg); obtain ⟨cc, cv, crd, cb⟩ := CV w3 w3.heap.size rfl; have G4 := G _ _ crd (c3.trans (cb.mono c3.size)); have z3 := Nat.le_trans hBw b3.size; have o3 := OwnE.grown ho b3 hgB; clear T1 CV G ho))
            | (go_at_call 18; go_loud (refine G4.mono ?_; rintro e w4 ⟨A4, c4, rfl, r4, b4⟩; have cb4 := cb.trans (b4.mono cb.size); have bw4 := c3.trans (cb4.mono c3.size); have z4 := Nat.le_trans z3 cb4.size; have o4 := (o3.below cb4).alloc (.cells #[.int .i64 y.seq, .int .i64 y.time, .slice A4 y.labs.length c4, .string ⟨y.line.toArray⟩] 24); have d4 := (d3.below (cb4.mono z3)).below ((Below.refl B w4).alloc z4 (.cells #[.int .i64 y.seq, .int .i64 y.time, .slice A4 y.labs.length c4, .string ⟨y.line.toArray⟩] 24)); have ol4 := (r4.mono (show B ≤ _ from Nat.le_trans z3 cb.size)).alloc (.cells #[.int .i64 y.seq, .int .i64 y.time, .slice A4 y.labs.length c4, .string ⟨y.line.toArray⟩] 24); have bw4' := bw4.alloc bw4.size (.cells #[.int .i64 y.seq, .int .i64 y.time, .slice A4 y.labs.length c4, .string ⟨y.line.toArray⟩] 24); clear G4 cv o3 d3))
            | (at_builtin; go_loud (refine wp_appE rfl (.tmp 26) (.tmp 28) rfl B _ m (y, .slice A4 y.labs.length c4) A4 c4 rfl rfl o4 ol4 (by simp [Act.eval]) hml (by simp; omega) ?_; intro v5 w5 o5 b5)))
          go_roundw
          case rel => exact ⟨k + 1, acc ++ [y], r1, er1, m ++ [(y, .slice A4 y.labs.length c4)], by go_num, by omega, o5, hid ⟨by rw [List.map_append, HM.out.1]; rfl, by rw [List.length_append, HM.out.2]; rfl⟩, d4.below (below_alloc (by simp; omega) b5), HS2, bw4'.trans ((below_alloc (by simp; omega) b5).mono (by omega)), by have := b5.size; simp at this; omega⟩
          case measure => simp [intOf]; omega
      · obtain rfl : k = n := by omega
        have hD := Done_dec w.heap.size B g er rest
        have HM1 : Hid (m.map (·.1) = acc) := hid HM.out.1
        have hR := fun w1 v1 (gR : RdE w1 v1 acc) (hb : Below w.heap.size w w1) => rightBatch_is v1 acc w1 gR (hT.below hb) s4
        have rd := ho.rd
        rw [HM.out.1] at rd
        have HX2 : Hid (batG l = if doneD rest er = 0 ∧ batR acc = true then some acc else none) := hid (by rw [HX.out, HE.out]; rfl)
        have ho2 := ho.mono hwB
        clear HX HE s1 s2 s3 s4 hl1 hlen1 hT HM
        by_cases h0 : doneD rest er = 0
        · rw [h0] at hD
          cases hr : batR acc with
          | true =>
            rw [hr] at hR
            have HY : Hid (batG l = some acc) := hid (by rw [HX2.out, if_pos ⟨h0, hr⟩])
            clear HX2 h0 hr
            go_wp2_with (first
              | (go_at_call 68; refine (hD _ hd).mono ?_; rintro e w5 ⟨rfl, rfl⟩)
              | (go_at_call 78; refine (hR _ _ rd hbw).mono ?_; rintro e w6 ⟨rfl, b6⟩))
            go_ret2
            exact ⟨m, _, 0, rfl, ho2.below b6, .inl ⟨by rw [HY.out, HM1.out], rfl⟩, hbw.trans (b6.mono hbw.size)⟩
          | false =>
            rw [hr] at hR
            have HY : Hid (batG l = none) := hid (by rw [HX2.out, if_neg (by rw [hr]; simp)])
            clear HX2 h0 hr
            go_wp2_with (first
              | (go_at_call 68; refine (hD _ hd).mono ?_; rintro e w5 ⟨rfl, rfl⟩)
              | (go_at_call 78; refine (hR _ _ rd hbw).mono ?_; rintro e w6 ⟨rfl, b6⟩))
            go_ret2
            exact ⟨m, _, 21, rfl, ho2.below b6, .inr ⟨HY.out, by decide⟩, hbw.trans (b6.mono hbw.size)⟩
        · have HY : Hid (batG l = none) := hid (by rw [HX2.out, if_neg (fun h => h0 h.1)])
          have hne : ((doneD rest er : Int) == 0) = false := by simp; omega
          have hne2 : ((doneD rest er : Int) != 0) = true := by rw [bne, hne]; rfl
          have HD := hid h0
          generalize doneD rest er = er2 at *
          clear HX2 h0 hR
          go_wp2_with (first
            | (go_at_call 68; refine (hD _ hd).mono ?_; rintro e w5 ⟨rfl, rfl⟩))
          go_ret2
          exact ⟨m, _, er2, rfl, ho2, .inr ⟨HY.out, HD.out⟩, hbw⟩
end Go.Proofs.YtffpphigmdehfaaDoor
