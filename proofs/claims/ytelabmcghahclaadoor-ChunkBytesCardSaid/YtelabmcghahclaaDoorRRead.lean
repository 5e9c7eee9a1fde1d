/-
  What label.Read and the reference's Read answer, of any bytes: what readS says. Conditions: the slice reads as bytes.
  What the reference's Read of labels answers, of any bytes: what readS says. Conditions: the slice reads as bytes.
-/
import Derived.Test.YtelabmcghahclaaDoorRefDec
import Derived.Test.YtelabmcghahclaaDoorRefRight
section
namespace Go.Icz
open Go.RowKit
def bt (l : List Nat) : B8 := l.map fun n : Nat => UInt8.ofNat n
theorem str_bt (l : List Nat) : str l = ⟨(bt l).toArray⟩ := rfl
/-- One label more, of a decoder. -/
def stepD (s : List Lab × List Nat × Nat) : List Lab × List Nat × Nat :=
  (s.1 ++ [(bt (txtD s.2.1 s.2.2).1, bt (txtD (txtD s.2.1 s.2.2).2.1 (txtD s.2.1 s.2.2).2.2).1)], (txtD (txtD s.2.1 s.2.2).2.1 (txtD s.2.1 s.2.2).2.2).2)
def labsD (l : List Nat) (er : Nat) : Nat → List Lab × List Nat × Nat
  | 0 => ([], l, er)
  | k + 1 => stepD (labsD l er k)
/-- The labels that bytes say, and the error. -/
def readS (l : List Nat) : List Lab × Nat :=
  if 16 < (numD l 0).1 then ([], 21) else
  if doneD (labsD (numD l 0).2.1 (numD l 0).2.2 (numD l 0).1).2.1 (labsD (numD l 0).2.1 (numD l 0).2.2 (numD l 0).1).2.2 = 0 ∧ rightS (labsD (numD l 0).2.1 (numD l 0).2.2 (numD l 0).1).1 = true
  then ((labsD (numD l 0).2.1 (numD l 0).2.2 (numD l 0).1).1, 0) else ([], 21)
theorem rdt_len (l : List Nat) : (rdt l).1.length ≤ l.length := by
  unfold rdt
  split
  · simp
  · split
    · simp
    · split
      · simp
      · simp only [List.length_take, List.length_drop]; omega
theorem numD_sub (l : List Nat) (er : Nat) : (∀ c ∈ (numD l er).2.1, c ∈ l) ∧ (numD l er).2.1.length ≤ l.length := by
  unfold numD
  split
  · exact ⟨fun _ h => h, Nat.le_refl _⟩
  · split
    · exact ⟨fun _ h => h, Nat.le_refl _⟩
    · exact ⟨fun _ h => List.mem_of_mem_drop h, by simp only [List.length_drop]; omega⟩
theorem txtD_sub (l : List Nat) (er : Nat) : (∀ c ∈ (txtD l er).2.1, c ∈ l) ∧ (txtD l er).2.1.length ≤ l.length ∧ (txtD l er).1.length ≤ l.length := by
  unfold txtD
  split
  · exact ⟨fun _ h => h, Nat.le_refl _, by simp⟩
  · split
    · exact ⟨fun _ h => h, Nat.le_refl _, by simp⟩
    · exact ⟨fun _ h => List.mem_of_mem_drop h, by simp only [List.length_drop]; omega, rdt_len l⟩
theorem labsD_len (l : List Nat) (er : Nat) : ∀ k, (labsD l er k).1.length = k
  | 0 => rfl
  | k + 1 => by unfold labsD stepD; simp [labsD_len l er k]
theorem labsD_sub (l : List Nat) (er : Nat) : ∀ k, (∀ c ∈ (labsD l er k).2.1, c ∈ l) ∧ (labsD l er k).2.1.length ≤ l.length ∧ (∀ x ∈ (labsD l er k).1, x.1.length ≤ l.length ∧ x.2.length ≤ l.length)
  | 0 => ⟨fun _ h => h, Nat.le_refl _, by simp [labsD]⟩
  | k + 1 => by
    obtain ⟨h1, h2, h3⟩ := labsD_sub l er k
    unfold labsD stepD
    obtain ⟨a1, a2, a3⟩ := txtD_sub (labsD l er k).2.1 (labsD l er k).2.2
    obtain ⟨b1, b2, b3⟩ := txtD_sub (txtD (labsD l er k).2.1 (labsD l er k).2.2).2.1 (txtD (labsD l er k).2.1 (labsD l er k).2.2).2.2
    refine ⟨fun c h => h1 c (a1 c (b1 c h)), by simp only; omega, fun x hx => ?_⟩
    rcases List.mem_append.1 hx with hx | hx
    · exact h3 x hx
    · obtain rfl := List.mem_singleton.1 hx
      simp only [bt, List.length_map]
      omega
theorem OwnL.grown {w w' : World} {B g : Nat} {v : Value} {l : List Lab} (h : OwnL w B v l) (hg : w.grownBy w' (some g)) (hB : g < B) : OwnL w' B v l := by
  refine World.ownsRow.kept h hg ?_
  rcases h.2 with ⟨rfl, _⟩ | ⟨k, cap, cur, rfl, hk, _⟩
  · exact .inl rfl
  · exact .inr (by simp [Value.ownBlock]; omega)
end Go.Icz
namespace Go.Proofs.YtelabmcghahclaaDoor
open Go.RowKit Go.Icz
/-- It answers labels in new memory, and an error. -/
def ReadOwn (l : List Nat) (w : World) (e : Ending) (w' : World) : Prop :=
  ∃ u, e = .returned (.tuple #[u, .int .i64 ((readS l).2 : Int)]) ∧ OwnL w' w.heap.size u (readS l).1 ∧ Below w.heap.size w w'
/-- It answers labels that can be read, and an error. -/
def ReadOut (l : List Nat) (w : World) (e : Ending) (w' : World) : Prop :=
  ∃ u, e = .returned (.tuple #[u, .int .i64 ((readS l).2 : Int)]) ∧ RdL w' u (readS l).1 ∧ Below w.heap.size w w'
theorem ownL1 (w : World) {B : Nat} (x : Lab) (hB : B ≤ w.heap.size) : OwnL (w.alloc (.cells #[.string ⟨x.1.toArray⟩, .string ⟨x.2.toArray⟩] 100)) B (.slice (some ⟨w.heap.size, 0, none⟩) 1 1) [x] :=
  World.ownsRow_lit w #[.string ⟨x.1.toArray⟩, .string ⟨x.2.toArray⟩] 1 hB (by decide) rfl
theorem Text_bt (B0 B g er : Nat) (l : List Nat) (w : World) (hd : DecAt w B0 B g l er) (hl : ∀ c ∈ l, c < 256) (hlen : l.length ≤ 4611686018427387904) :
    Calls Tryd.prog 38 #[.pointer (some ⟨g, 0, none⟩)] w (Took w B0 B g (.string ⟨(bt (txtD l er).1).toArray⟩) (txtD l er).2.1 (txtD l er).2.2) := Text_dec B0 B g er l w hd hl hlen
set_option maxRecDepth 100000 in
set_option maxHeartbeats 1000000 in
theorem LRead_own (v : Value) (l : List Nat) (w : World) (hv : Rd w v l) (hl : ∀ c ∈ l, c < 256) (hlen : l.length ≤ 140737488355328) (hT : Tabs w) :
    Calls Tryd.prog 37 #[v] w (ReadOwn l w) := by
  have HN := New_any v l w hv hlen
  by_cases hbig : 16 < (numD l 0).1
  · have HX : Hid (readS l = ([], 21)) := hid (by unfold readS; rw [if_pos hbig])
    have hbig' : (16 : Int) < ((numD l 0).1 : Int) := by omega
    clear hbig
    go_enter Tryd.func37, Tryd.ntmps37
    go_wp2_with (first
      | (go_at_call 36; refine HN.mono ?_; rintro e w1 ⟨g, rfl, hg, d1, b1⟩; clear HN)
      | (go_at_call 73; refine (Number_dec _ _ g 0 l _ d1 hl (by omega)).mono ?_; rintro e w2 ⟨rfl, d2, b2⟩))
    go_ret2
    exact ⟨_, by rw [HX.out]; rfl, by rw [HX.out]; exact OwnL.nil _ _, b1.grown b2 b1.size (fun k hk => by cases hk; exact hg)⟩
  · have hn16 : (numD l 0).1 ≤ 16 := by omega
    obtain ⟨hs1, hs2⟩ := numD_sub l 0
    have hbig' : ¬ (16 : Int) < ((numD l 0).1 : Int) := by omega
    have HX : Hid (readS l = if doneD (labsD (numD l 0).2.1 (numD l 0).2.2 (numD l 0).1).2.1 (labsD (numD l 0).2.1 (numD l 0).2.2 (numD l 0).1).2.2 = 0 ∧ rightS (labsD (numD l 0).2.1 (numD l 0).2.2 (numD l 0).1).1 = true
      then ((labsD (numD l 0).2.1 (numD l 0).2.2 (numD l 0).1).1, 0) else ([], 21)) := hid (by unfold readS; rw [if_neg hbig])
    have HN2 := fun g w1 (d1 : DecAt w1 w.heap.size w1.heap.size g l 0) => Number_dec _ _ g 0 l w1 d1 hl (by omega)
    have hl1 : ∀ c ∈ (numD l 0).2.1, c < 256 := fun c hc => hl c (hs1 c hc)
    have hlen1 : (numD l 0).2.1.length ≤ 140737488355328 := by omega
    generalize (numD l 0).1 = n at *
    generalize (numD l 0).2.1 = l1 at *
    generalize (numD l 0).2.2 = e1 at *
    clear hbig hs1 hs2 hl hlen
    go_enter Tryd.func37, Tryd.ntmps37
    go_wp2_with (first
      | (go_at_call 36; refine HN.mono ?_; rintro e w1 ⟨g, rfl, hg, d1, b1⟩; clear HN)
      | (go_at_call 73; refine (HN2 _ _ d1).mono ?_; rintro e w2 ⟨rfl, d2, b2'⟩; have b2 := b1.grown b2' b1.size (fun k hk => by cases hk; exact hg); have hB := b2'.size; have hwB := b1.size; clear HN2 d1 b1 b2'))
    generalize w1.heap.size = B at *
    go_loopw [6, 16] (fun lv kv wr => ∃ k : Nat, kv = .int .i64 k ∧ k ≤ n ∧ OwnL wr B lv (labsD l1 e1 k).1 ∧ DecAt wr w.heap.size B g (labsD l1 e1 k).2.1 (labsD l1 e1 k).2.2 ∧ Below w.heap.size w wr ∧ B ≤ wr.heap.size) (fun _ kv _ => n - (intOf kv).toNat)
    case atStart => exact ⟨0, rfl, by omega, OwnL.nil _ _, d2, b2, hB⟩
    case round =>
      obtain ⟨k, rfl, hk, ho, hd, hbw, hBw⟩ := hrel
      have hkl := labsD_len l1 e1 k
      obtain ⟨s1, s2, s3⟩ := labsD_sub l1 e1 k
      by_cases hlt : k < n
      · have HST : Hid (labsD l1 e1 (k + 1) = stepD (labsD l1 e1 k)) := hid rfl
        have hgB : g < B := by obtain ⟨_, _, _, h, _⟩ := hd; exact h.2
        have q1 : ∀ c ∈ (labsD l1 e1 k).2.1, c < 256 := fun c hc => hl1 c (s1 c hc)
        have q2 : (labsD l1 e1 k).2.1.length ≤ 140737488355328 := by omega
        generalize labsD l1 e1 k = st at *
        obtain ⟨out, rest, er⟩ := st
        simp only at *
        have T1 := Text_bt _ B g er rest wr hd q1 (by omega)
        obtain ⟨a1, a2, a3⟩ := txtD_sub rest er
        have q3 : ∀ c ∈ (txtD rest er).2.1, c < 256 := fun c hc => q1 c (a1 c hc)
        have q4 : (txtD rest er).2.1.length ≤ 4611686018427387904 := by omega
        have HS2 : Hid (labsD l1 e1 (k + 1) = (out ++ [(bt (txtD rest er).1, bt (txtD (txtD rest er).2.1 (txtD rest er).2.2).1)], (txtD (txtD rest er).2.1 (txtD rest er).2.2).2)) := hid (by rw [HST.out]; rfl)
        generalize bt (txtD rest er).1 = x1 at *
        generalize (txtD rest er).2.1 = r1 at *
        generalize (txtD rest er).2.2 = er1 at *
        have T2 := fun w3 (d3 : DecAt w3 w.heap.size B g r1 er1) => Text_bt _ B g er1 r1 w3 d3 q3 q4
        clear a1 a2 a3 q1 q2 q3 q4 s1 s2 s3 HST hl1
        generalize bt (txtD r1 er1).1 = x2 at *
        generalize (txtD r1 er1).2 = st2 at *
        obtain ⟨r2, er2⟩ := st2
        simp only at *
        go_wp2_with (first
          | (go_at_call 38; refine T1.mono ?_; rintro e w3 ⟨rfl, d3, b3⟩; have o3 := ho.grown b3 hgB; have c3 := hbw.grown b3 hbw.size (fun k hk => by cases hk; exact hg); have z3 := Nat.le_trans hBw b3.size; clear T1 ho hd hbw)
          | (go_at_call 38; refine (T2 _ d3).mono ?_; rintro e w4 ⟨rfl, d4, b4⟩; have o4 := o3.grown b4 hgB; have c4 := c3.grown b4 c3.size (fun k hk => by cases hk; exact hg); have z4 := Nat.le_trans z3 b4.size; clear T2 d3 o3 c3)
          | (at_builtin; refine wp_appL rfl (.tmp 22) (.tmp 26) rfl B _ _ out [(x1, x2)] rfl (o4.alloc _) rfl ((ownL1 w4 (x1, x2) (Nat.le_refl _)).rd) (by simp; omega) (by simp; omega) ?_; intro v5 w5 o5 b5 _))
        go_roundw
        case rel => exact ⟨k + 1, by go_num, by omega, by rw [HS2.out]; exact o5, by rw [HS2.out]; exact d4.below (below_allocT z4 b5), c4.trans ((below_allocT z4 b5).mono (by have := c4.size; omega)), by have := b5.size; simp at this; omega⟩
        case measure => simp [intOf]; omega
      · obtain rfl : k = n := by omega
        have hD := Done_dec w.heap.size B g (labsD l1 e1 k).2.2 (labsD l1 e1 k).2.1
        have hRt := fun w1 v1 (g1 : RdL w1 v1 (labsD l1 e1 k).1) (hT1 : Tabs w1) => Right_is v1 (labsD l1 e1 k).1 w1 g1 hT1 (fun x hx => by have := s3 x hx; omega)
        have rd := ho
        have HX2 := HX
        clear HX s1 s2 s3 hl1 hlen1
        by_cases h0 : doneD (labsD l1 e1 k).2.1 (labsD l1 e1 k).2.2 = 0
        · rw [h0] at hD
          cases hr : rightS (labsD l1 e1 k).1 with
          | true =>
            rw [hr] at hRt
            have HY : Hid (readS l = ((labsD l1 e1 k).1, 0)) := hid (by rw [HX2.out, if_pos ⟨h0, hr⟩])
            clear HX2 h0 hr hkl
            generalize labsD l1 e1 k = st at *
            go_wp2_with (first
              | (go_at_call 40; refine (hD _ hd).mono ?_; rintro e w5 ⟨rfl, rfl⟩)
              | (go_at_call 64; refine (hRt _ _ rd.rd (hT.below hbw)).mono ?_; rintro e w6 ⟨rfl, b6⟩))
            go_ret2
            exact ⟨_, by rw [HY.out]; rfl, by rw [HY.out]; exact (rd.below b6).mono hwB, hbw.trans (b6.mono hbw.size)⟩
          | false =>
            rw [hr] at hRt
            have HY : Hid (readS l = ([], 21)) := hid (by rw [HX2.out, if_neg (by rw [hr]; simp)])
            clear HX2 h0 hr hkl
            generalize labsD l1 e1 k = st at *
            go_wp2_with (first
              | (go_at_call 40; refine (hD _ hd).mono ?_; rintro e w5 ⟨rfl, rfl⟩)
              | (go_at_call 64; refine (hRt _ _ rd.rd (hT.below hbw)).mono ?_; rintro e w6 ⟨rfl, b6⟩))
            go_ret2
            exact ⟨_, by rw [HY.out]; rfl, by rw [HY.out]; exact OwnL.nil _ _, hbw.trans (b6.mono hbw.size)⟩
        · have HY : Hid (readS l = ([], 21)) := hid (by rw [HX2.out, if_neg (fun h => h0 h.1)])
          have hne : ((doneD (labsD l1 e1 k).2.1 (labsD l1 e1 k).2.2 : Int) == 0) = false := by simp; omega
          have hne2 : ((doneD (labsD l1 e1 k).2.1 (labsD l1 e1 k).2.2 : Int) != 0) = true := by rw [bne, hne]; rfl
          generalize doneD (labsD l1 e1 k).2.1 (labsD l1 e1 k).2.2 = er2 at *
          clear HX2 h0 hRt hkl
          generalize labsD l1 e1 k = st at *
          go_wp2_with (first
            | (go_at_call 40; refine (hD _ hd).mono ?_; rintro e w5 ⟨rfl, rfl⟩))
          go_ret2
          exact ⟨_, by rw [HY.out]; rfl, by rw [HY.out]; exact OwnL.nil _ _, hbw⟩
theorem LRead_is (v : Value) (l : List Nat) (w : World) (hv : Rd w v l) (hl : ∀ c ∈ l, c < 256) (hlen : l.length ≤ 140737488355328) (hT : Tabs w) :
    Calls Tryd.prog 37 #[v] w (ReadOut l w) :=
  (LRead_own v l w hv hl hlen hT).mono fun _ _ ⟨u, h1, h2, h3⟩ => ⟨u, h1, h2.rd, h3⟩
end Go.Proofs.YtelabmcghahclaaDoor
end
section
namespace Go.Icz
open Go.RowKit
theorem grown_new {w w4 : World} {cs : Array Value} {t : TypeId} {g : Nat} (hg : (w.alloc (.cells cs t)).grownBy w4 (some g)) (hne : g < w.heap.size) : w4.heap[w.heap.size]? = some (.cells cs t (0, 0)) :=
  (hg.block _ (by simp) (fun e => by cases e; omega)).trans (heap_alloc_new w (.cells cs t))
theorem OwnL.far {w w' : World} {B b : Nat} {v : Value} {l : List Lab} (h : OwnL w B v l) (hg : w.grownBy w' (some b)) (hne : ∀ k, v.ownBlock = some k → k ≠ b) : OwnL w' B v l := by
  refine World.ownsRow.kept h hg ?_
  cases hv : v.ownBlock with
  | none => exact .inl rfl
  | some k => exact .inr (fun e => hne k hv (by injection e))
theorem below_of_drewN {w w' : World} {n : Nat} (h : Below (w.drewN n).heap.size (w.drewN n) w') : Below w.heap.size w w' := ⟨h.os, h.tape, h.output, h.size, h.block⟩
theorem below_dn {B : Nat} {w w' : World} (n : Nat) (h : Below B w w') : Below B w (w'.drewN n) := ⟨h.os, h.tape, h.output, h.size, h.block⟩
def fromS (l : List Nat) (er : Nat) : List Lab × List Nat × Nat := labsD (numD l er).2.1 (numD l er).2.2 (min (numD l er).1 17)
end Go.Icz
namespace Go.Proofs.YtelabmcghahclaaDoor
open Go.RowKit Go.Icz
theorem RText_bt (B g er a : Nat) (l : List Nat) (w : World) (hd : RDec w B g l a er) (hl : ∀ c ∈ l, c < 256) (hlen : l.length ≤ 4611686018427387904) :
    Calls Tryd.prog 43 #[.pointer (some ⟨g, 0, none⟩)] w (RTook w B g (.string ⟨(bt (txtD (l.drop a) er).1).toArray⟩) l (txtR l a er).2.1 (txtR l a er).2.2) := by
  rw [txtR_D]
  exact RText_dec B g er a l w hd hl hlen
theorem rd_set1 (w : World) (b : Nat) (u : Value) (x : Lab) : RdL ((w.setCell ⟨b, 1, none⟩ u).alloc (.cells #[.string ⟨x.1.toArray⟩, .string ⟨x.2.toArray⟩] 100)) (.slice (some ⟨w.heap.size, 0, none⟩) 1 1) [x] := by
  have h := (ownL1 (w.setCell ⟨b, 1, none⟩ u) x (Nat.le_refl _)).rd
  have e : (w.setCell ⟨b, 1, none⟩ u).heap.size = w.heap.size := by simp [World.setCell]
  rw [e] at h
  exact h
def FromOut (B g B0 : Nat) (l : List Nat) (w : World) (st : List Lab × List Nat × Nat) (e : Ending) (w' : World) : Prop :=
  ∃ u a', e = .returned u ∧ OwnL w' B u st.1 ∧ RDec w' B g l a' st.2.2 ∧ l.drop a' = st.2.1 ∧ Below B0 w w'
set_option maxRecDepth 100000 in
set_option maxHeartbeats 1000000 in
theorem From_is (B g a er B0 : Nat) (l : List Nat) (w : World) (hd : RDec w B g l a er) (hB : B ≤ w.heap.size) (h0 : B0 ≤ g) (hl : ∀ c ∈ l, c < 256) (hlen : l.length ≤ 140737488355328) :
    Calls Tryd.prog 78 #[.pointer (some ⟨g, 0, none⟩)] w (FromOut B g B0 l w (fromS (l.drop a) er)) := by
  have HN := RNumber_dec B g er a l w hd hl (by omega)
  have HF : Hid (fromS (l.drop a) er = labsD (l.drop (numR l a er).2.1) (numR l a er).2.2 (min (numR l a er).1 17)) := hid (by unfold fromS; rw [numR_D])
  have hgB : g < B := by obtain ⟨_, _, _, h, _⟩ := hd; exact h
  rw [HF.out]
  generalize (numR l a er).1 = n at *
  generalize (numR l a er).2.1 = p1 at *
  generalize (numR l a er).2.2 = e1 at *
  clear HF hd
  go_enter Tryd.func78, Tryd.ntmps78
  go_wp2_with (go_at_call 44; refine HN.mono ?_; rintro e w1 ⟨rfl, d1, b1⟩; have c1 := (Below.refl B0 w).grown b1 (by omega) (fun k hk => by cases hk; exact h0); have z1 := Nat.le_trans hB b1.size; clear HN)
  go_loopw [4, 5] (fun lv iv wr => ∃ k a' : Nat, iv = .int .i64 k ∧ k ≤ min n 17 ∧ OwnL wr B lv (labsD (l.drop p1) e1 k).1 ∧ RDec wr B g l a' (labsD (l.drop p1) e1 k).2.2 ∧ Hid (l.drop a' = (labsD (l.drop p1) e1 k).2.1) ∧ Below B0 w wr ∧ B ≤ wr.heap.size) (fun _ iv _ => n - (intOf iv).toNat)
  case atStart => exact ⟨0, p1, rfl, by omega, OwnL.nil _ _, d1, hid rfl, c1, z1⟩
  case round =>
    obtain ⟨k, a1, rfl, hk, ho, hd, HA, hbw, hBw⟩ := hrel
    have hkl := labsD_len (l.drop p1) e1 k
    by_cases hlt : k < n ∧ k ≤ 16
    · have HST : Hid (labsD (l.drop p1) e1 (k + 1) = stepD (labsD (l.drop p1) e1 k)) := hid rfl
      generalize labsD (l.drop p1) e1 k = st at *
      obtain ⟨out, rest, er1⟩ := st
      simp only at *
      have T1 := RText_bt B g er1 a1 l wr hd hl (by omega)
      rw [HA.out] at T1
      have hx := txtR_D l a1 er1
      rw [HA.out] at hx
      have HS2 : Hid (labsD (l.drop p1) e1 (k + 1) = (out ++ [(bt (txtD rest er1).1, bt (txtD (l.drop (txtR l a1 er1).2.1) (txtR l a1 er1).2.2).1)], l.drop (txtR l (txtR l a1 er1).2.1 (txtR l a1 er1).2.2).2.1, (txtR l (txtR l a1 er1).2.1 (txtR l a1 er1).2.2).2.2)) := hid (by
        rw [HST.out]
        unfold stepD
        simp only [hx]
        rw [txtR_D])
      have T2 := fun w3 (d3 : RDec w3 B g l (txtR l a1 er1).2.1 (txtR l a1 er1).2.2) => RText_bt B g _ _ l w3 d3 hl (by omega)
      clear hx HST HA
      generalize bt (txtD rest er1).1 = x1 at *
      generalize (txtR l a1 er1).2.1 = a2 at *
      generalize (txtR l a1 er1).2.2 = er2 at *
      generalize bt (txtD (l.drop a2) er2).1 = x2 at *
      generalize (txtR l a2 er2).2.1 = a3 at *
      generalize (txtR l a2 er2).2.2 = er3 at *
      obtain ⟨hlt1, hlt2⟩ := hlt
      have hlt1' : (k : Int) < (n : Int) := by omega
      have hlt2' : (k : Int) ≤ 16 := by omega
      clear hl
      go_wp2_with (first
        | (go_at_call 43; refine T1.mono ?_; rintro e w3 ⟨rfl, d3, b3⟩; have o3 := ho.grown b3 hgB; have c3 := hbw.grown b3 (by have := hbw.size; omega) (fun k hk => by cases hk; exact h0); have z3 := Nat.le_trans hBw b3.size; clear T1 ho hd hbw)
        | (go_at_call 43; refine (T2 _ (d3.below ((Below.refl _ _).alloc z3 _))).mono ?_; rintro e w4 ⟨rfl, d4, b4⟩; have hk4 := grown_new b4 (by omega); have q0 := held_cell (i := 0) hk4 rfl; have q1 := held_cell (i := 1) hk4 rfl; have ff := held_frozen (i := 1) hk4; have ff0 := held_frozen (i := 0) hk4; have o4 := (o3.alloc _).grown b4 hgB; have ne3 := fun k hk => (World.ownsRow.lt o3 k hk).2; have c4 := (c3.alloc (by have := c3.size; omega) _).grown b4 (by have := c3.size; simp; omega) (fun k hk => by cases hk; exact h0); have z4 := b4.size; simp only [World.size_alloc] at z4; clear T2 d3 o3 c3 b4 hk4)
        | (at_builtin; refine wp_appL rfl (.tmp 24) (.tmp 26) rfl B _ _ out [(x1, x2)] rfl ((o4.far (grown_set w4 w3.heap.size 1 (.string ⟨x2.toArray⟩)) (fun k hk => by have := ne3 k hk; omega)).alloc _) rfl (rd_set1 w4 w3.heap.size (.string ⟨x2.toArray⟩) (x1, x2)) (by simp; omega) (by simp; omega) ?_; intro v5 w5 o5 b5 _))
      have b6 : Below B w4 w5 := ((Below.refl B w4).setCell z3 _).trans (below_allocT (by simp; omega) b5)
      go_roundw
      case rel => exact ⟨k + 1, a3, by go_num, by omega, by rw [HS2.out]; exact o5, by rw [HS2.out]; exact d4.below b6, hid (by rw [HS2.out]), c4.trans (b6.mono (by omega)), by have := b6.size; omega⟩
      case measure => simp [intOf]; omega
    · have hkm := hid (show min n 17 = k by omega)
      have rd := ho
      clear hkl
      by_cases h1 : k < n
      · have h1' : (k : Int) < (n : Int) := by omega
        have h2' : ¬ (k : Int) ≤ 16 := by omega
        clear hlt
        go_wp2
        go_ret
        unfold FromOut
        rw [hkm.out]
        exact ⟨_, a1, rfl, rd, hd, HA.out, hbw⟩
      · have h1' : ¬ (k : Int) < (n : Int) := by omega
        clear hlt
        go_wp2
        go_ret
        unfold FromOut
        rw [hkm.out]
        exact ⟨_, a1, rfl, rd, hd, HA.out, hbw⟩
set_option maxRecDepth 100000 in
set_option maxHeartbeats 1000000 in
theorem RRead_own (v : Value) (l : List Nat) (w : World) (hv : Rd w v l) (hl : ∀ c ∈ l, c < 256) (hlen : l.length ≤ 140737488351232) :
    Calls Tryd.prog 42 #[v] w (ReadOwn l w) := by
  have HN := RNew_any v l w hv hlen
  have HF := fun w1 g (d1 : RDec w1 w1.heap.size g l 0 0) (hg : w.heap.size ≤ g) => From_is w1.heap.size g 0 0 w.heap.size l w1 d1 (Nat.le_refl _) hg hl (by omega)
  rw [List.drop_zero] at HF
  have HX : Hid (readS l = if doneD (fromS l 0).2.1 (fromS l 0).2.2 = 0 ∧ rightS (fromS l 0).1 = true then ((fromS l 0).1, 0) else ([], 21)) := hid (by
    unfold readS fromS
    by_cases h : 16 < (numD l 0).1
    · rw [if_pos h, if_neg]
      intro h2
      have hlen := labsD_len (numD l 0).2.1 (numD l 0).2.2 (min (numD l 0).1 17)
      have h3 := h2.2
      simp only [rightS, Bool.and_eq_true, decide_eq_true_eq] at h3
      omega
    · rw [if_neg h, show min (numD l 0).1 17 = (numD l 0).1 by omega])
  have hsub := labsD_sub (numD l 0).2.1 (numD l 0).2.2 (min (numD l 0).1 17)
  have hnum := numD_sub l 0
  have hRt := fun w1 v1 (g1 : RdL w1 v1 (fromS l 0).1) => RefRight_is v1 (fromS l 0).1 w1 g1 (by unfold fromS; rw [labsD_len]; omega) (fun x hx => by have := hsub.2.2 x hx; omega)
  have hD := fun w2 g a2 B (d2 : RDec w2 B g l a2 (fromS l 0).2.2) => RDone_dec B g _ a2 l w2 d2 (by omega)
  generalize fromS l 0 = st at *
  clear hsub hnum hl hv
  by_cases h0 : doneD st.2.1 st.2.2 = 0
  · cases hr : rightS st.1 with
    | true =>
      rw [hr] at hRt
      have HY : Hid (readS l = (st.1, 0)) := hid (by rw [HX.out, if_pos ⟨h0, hr⟩])
      have H0 := hid h0
      clear HX h0 hr
      go_enter Tryd.func42, Tryd.ntmps42
      go_wp2_with (first
        | (go_at_call 41; refine HN.mono ?_; rintro e w1 ⟨g, rfl, hg, d1, b1⟩; clear HN)
        | (go_at_call 78; refine (HF _ _ d1 hg).mono ?_; rintro e w2 ⟨u, a2, rfl, ru, d2, ha2, b2⟩; have D := hD _ _ _ _ d2; rw [ha2, H0.out] at D; clear HF hD ha2 d1 d2)
        | (go_at_call 46; refine D.mono ?_; rintro e w3 ⟨rfl, n, rfl⟩; clear D)
        | (go_at_call 50; refine (hRt _ _ (show RdL (w2.drewN n) u st.1 from ru.rd)).mono ?_; rintro e w4 ⟨rfl, b4⟩; clear hRt))
      go_ret2
      have c4 := below_of_drewN b4
      exact ⟨_, by rw [HY.out]; rfl, by rw [HY.out]; exact (ru.below c4).mono b1.size, (b1.trans b2).trans (c4.mono (b1.trans b2).size)⟩
    | false =>
      rw [hr] at hRt
      have HY : Hid (readS l = ([], 21)) := hid (by rw [HX.out, if_neg (by rw [hr]; simp)])
      have H0 := hid h0
      clear HX h0 hr
      go_enter Tryd.func42, Tryd.ntmps42
      go_wp2_with (first
        | (go_at_call 41; refine HN.mono ?_; rintro e w1 ⟨g, rfl, hg, d1, b1⟩; clear HN)
        | (go_at_call 78; refine (HF _ _ d1 hg).mono ?_; rintro e w2 ⟨u, a2, rfl, ru, d2, ha2, b2⟩; have D := hD _ _ _ _ d2; rw [ha2, H0.out] at D; clear HF hD ha2 d1 d2)
        | (go_at_call 46; refine D.mono ?_; rintro e w3 ⟨rfl, n, rfl⟩; clear D)
        | (go_at_call 50; refine (hRt _ _ (show RdL (w2.drewN n) u st.1 from ru.rd)).mono ?_; rintro e w4 ⟨rfl, b4⟩; clear hRt))
      go_ret2
      have c4 := below_of_drewN b4
      exact ⟨_, by rw [HY.out]; rfl, by rw [HY.out]; exact OwnL.nil _ _, (b1.trans b2).trans (c4.mono (b1.trans b2).size)⟩
  · have HY : Hid (readS l = ([], 21)) := hid (by rw [HX.out, if_neg (fun h => h0 h.1)])
    have hne : ((doneD st.2.1 st.2.2 : Int) == 0) = false := by simp; omega
    have hne2 : ((doneD st.2.1 st.2.2 : Int) != 0) = true := by rw [bne, hne]; rfl
    clear HX h0 hRt
    go_enter Tryd.func42, Tryd.ntmps42
    go_wp2_with (first
      | (go_at_call 41; refine HN.mono ?_; rintro e w1 ⟨g, rfl, hg, d1, b1⟩; clear HN)
      | (go_at_call 78; refine (HF _ _ d1 hg).mono ?_; rintro e w2 ⟨u, a2, rfl, ru, d2, ha2, b2⟩; have D := hD _ _ _ _ d2; rw [ha2] at D; clear HF hD ha2 d1 d2)
      | (go_at_call 46; refine D.mono ?_; rintro e w3 ⟨rfl, n, rfl⟩; clear D))
    go_ret2
    exact ⟨_, by rw [HY.out]; rfl, by rw [HY.out]; exact OwnL.nil _ _, below_dn n (b1.trans b2)⟩
theorem RRead_is (v : Value) (l : List Nat) (w : World) (hv : Rd w v l) (hl : ∀ c ∈ l, c < 256) (hlen : l.length ≤ 140737488351232) :
    Calls Tryd.prog 42 #[v] w (ReadOut l w) :=
  (RRead_own v l w hv hl hlen).mono fun _ _ ⟨u, h1, h2, h3⟩ => ⟨u, h1, h2.rd, h3⟩
end Go.Proofs.YtelabmcghahclaaDoor
end
