/-
  What the writer's add and done answer, record.Put and record.Size. Conditions: those that each theorem names.
-/
import Derived.Test.YtcdfjkhjdiojbaaDoorEnt
import Derived.Test.YtcdfjkhjdiojbaaDoorEntOwn
import Derived.Deep.QuietTactic
import Derived.BigQuiet
namespace Go.Icz
open Go.RowKit
/-- A writer in block g: its bytes lie in a row of their own from B on; its error. -/
def WrAt (w : World) (B g : Nat) (l : List Nat) (er : Nat) : Prop :=
  ∃ v, g < B ∧ g < w.heap.size ∧ w.cell? ⟨g, 0, none⟩ = some v ∧ w.cell? ⟨g, 1, none⟩ = some (.int .i64 (er : Int)) ∧ w.frozen? ⟨g, 0, none⟩ = false ∧ w.frozen? ⟨g, 1, none⟩ = false ∧ Own w B v l
end Go.Icz
namespace Go.Proofs.YtcdfjkhjdiojbaaDoor
open Go.RowKit Go.Icz
/-- The entry's bytes. -/
def entB (x : Ent) : List Nat := num x.seq.toNat ++ num x.time.toNat ++ txt (str (bytesN x.labs)) ++ txt ⟨x.line.toArray⟩
theorem Own.grown {w w' : World} {B g : Nat} {v : Value} {l : List Nat} (h : Own w B v l) (hg : w.grownBy w' (some g)) (hB : g < B) : Own w' B v l := by
  refine World.ownsRow.kept h hg ?_
  rcases h.2 with ⟨rfl, _⟩ | ⟨k, cap, cur, rfl, hk, _⟩
  · exact .inl rfl
  · exact .inr (by simp [Value.ownBlock]; omega)
set_option maxHeartbeats 2000000 in
set_option maxRecDepth 100000 in
theorem Eadd_is (B g : Nat) (l m : List Nat) (u : Value) (w : World) (hW : WrAt w B g l 0) (hu : Rd w u m) (hlen : l.length + m.length ≤ 140737488355328) (hB : B ≤ w.heap.size) :
    Calls Tryd.prog 55 #[.pointer (some ⟨g, 0, none⟩), u, .int .i64 0] w fun e w' => e = .returned (.tuple #[]) ∧ WrAt w' B g (l ++ m) 0 ∧ Below g w w' := by
  obtain ⟨v, h1, h2, c0, c1, f0, f1, ho⟩ := hW
  have hv := ho.rd
  obtain ⟨A, c, rfl, hc, _⟩ := hv
  have hu' := hu
  obtain ⟨A2, c2, rfl, hc2, _⟩ := hu'
  go_enter Tryd.func55, Tryd.ntmps55
  go_wp2_with (at_builtin; go_loud (refine wp_appR std rfl (.tmp 16) (.tmp 17) rfl B _ _ l m rfl ho rfl hu hlen hB ?_; intro v1 w1 o1 b1; obtain ⟨A1, c1', rfl, hc1, _⟩ := o1.rd; have d0 := (b1.cell (p := ⟨g, 0, none⟩) h1).trans c0; have d1 := (b1.cell (p := ⟨g, 1, none⟩) h1).trans c1; have e0 := (b1.frozen (p := ⟨g, 0, none⟩) h1).trans f0; have e1 := (b1.frozen (p := ⟨g, 1, none⟩) h1).trans f1))
  have hsz : w.heap.size ≤ w1.heap.size := b1.size
  have gg : ∀ (u0 u1 : Value), w1.grownBy ((w1.setCell ⟨g, 0, none⟩ u0).setCell ⟨g, 1, none⟩ u1) (some g) := fun u0 u1 => World.grownBy.trans (grown_set w1 g 0 u0) (grown_set _ g 1 u1)
  have hW : WrAt ((w1.setCell ⟨g, 0, none⟩ (.slice A1 (l.length + m.length) c1')).setCell ⟨g, 1, none⟩ (.int .i64 0)) B g (l ++ m) 0 := by
    refine ⟨.slice A1 (l.length + m.length) c1', h1, by simp [World.setCell]; omega, ?_, ?_, by simpa using e0, by simpa using e1, ?_⟩
    · rw [World.cell?_setCell_other _ _ _ _ (by simp)]
      exact World.cell?_setCell_same' w1 _ _ (by rw [d0]; rfl)
    · refine World.cell?_setCell_same' _ _ _ ?_
      rw [World.cell?_setCell_other _ _ _ _ (by simp), d1]; rfl
    · simp only [List.length_append] at o1
      exact Own.grown o1 (gg _ _) h1
  exact bodyPost_end (v := .tuple #[]) (by simp [results, Tryd.results55, go_sem]) rfl ⟨rfl, hW, ((b1.mono (Nat.le_of_lt h1)).setCell (Nat.le_refl _) _).setCell (Nat.le_refl _) _⟩
set_option maxRecDepth 100000 in
theorem Edone_is (B g : Nat) (l : List Nat) (w : World) (hW : WrAt w B g l 0) :
    Calls Tryd.prog 58 #[.pointer (some ⟨g, 0, none⟩)] w fun e w' => ∃ v, e = .returned (.tuple #[v, .int .i64 0]) ∧ Own w' B v l ∧ w = w' := by
  obtain ⟨v, h1, h2, c0, c1, f0, f1, ho⟩ := hW
  have hv := ho.rd
  obtain ⟨A, c, rfl, hc, _⟩ := hv
  go_enter Tryd.func58, Tryd.ntmps58
  go_wp2
  go_ret2
  exact ⟨_, rfl, ho, rfl⟩
theorem bytesL_len : ∀ (l : List Lab), (∀ x ∈ l, x.1.length ≤ 128 ∧ x.2.length ≤ 128) → (bytesL l).length ≤ 272 * l.length
  | [], _ => by simp [bytesL]
  | x :: t, h => by
    have h1 := bytesL_len t (fun y hy => h y (List.mem_cons_of_mem _ hy))
    have h2 := h x (List.mem_cons_self ..)
    have a1 := txt_len ⟨x.1.toArray⟩ (by rw [Lib.size_mk]; omega)
    have a2 := txt_len ⟨x.2.toArray⟩ (by rw [Lib.size_mk]; omega)
    simp only [bytesL, List.length_append, List.length_cons]
    omega
theorem bytesN_len {l : List Lab} (hr : rightS l = true) : (bytesN l).length ≤ 4400 := by
  obtain ⟨h16, hal⟩ := right_lens hr
  have h1 := bytesL_len l hal
  have h2 := num_len8 (n := l.length) (by omega)
  unfold bytesN
  rw [List.length_append]
  omega
theorem str_len (l : List Nat) : (str l).size = l.length := by
  unfold str
  rw [Lib.size_mk, List.length_map]
theorem txt_len2 (s : ByteArray) (h : s.size ≤ 65536) : (txt s).length ≤ s.size + 8 := by
  unfold txt
  have := num_len8 (n := s.size) (by omega)
  rw [List.length_append, nats_len]
  omega
theorem WrAt.below {w w' : World} {B g er : Nat} {l : List Nat} (h : WrAt w B g l er) (hb : Below w.heap.size w w') : WrAt w' B g l er := by
  obtain ⟨v, h1, h2, c0, c1, f0, f1, ho⟩ := h
  exact ⟨v, h1, Nat.lt_of_lt_of_le h2 hb.size, (hb.cell (p := ⟨g, 0, none⟩) h2).trans c0, (hb.cell (p := ⟨g, 1, none⟩) h2).trans c1, (hb.frozen (p := ⟨g, 0, none⟩) h2).trans f0, (hb.frozen (p := ⟨g, 1, none⟩) h2).trans f1, ho.below hb⟩
theorem WrAt.new (w : World) : WrAt (w.alloc (.cells #[.slice none 0 0, .int .i64 0] 90)) (w.heap.size + 1) w.heap.size [] 0 := by
  have h := heap_alloc_new w (.cells #[.slice none 0 0, .int .i64 0] 90)
  exact ⟨.slice none 0 0, Nat.lt_succ_self _, by simp, held_cell h rfl, held_cell h rfl, held_frozen h, held_frozen h, Own.nil _ _⟩
/-- The bytes of an entry that may be; an error else. -/
def EPutOut (x : Ent) (w : World) (e : Ending) (w' : World) : Prop :=
  ∃ v, e = .returned (.tuple #[v, .int .i64 (if entR x = true then 0 else 1)]) ∧ Rd w' v (if entR x = true then entB x else []) ∧ Below w.heap.size w w'
theorem box4 {w w1 : World} {a b c d : Value} {t : TypeId} (h : Below (w.alloc (.cells #[a, b, c, d] t)).heap.size (w.alloc (.cells #[a, b, c, d] t)) w1) : w1.heap[w.heap.size]? = some (.cells #[a, b, c, d] t (0, 0)) :=
  (h.block _ (by simp)).trans (heap_alloc_new w (.cells #[a, b, c, d] t))
theorem keep4 {w w1 : World} {k : Nat} {o : Obj} (h : w.heap[k]? = some o) (hb : Below w.heap.size w w1) : w1.heap[k]? = some o :=
  (hb.block k (Array.getElem?_eq_some_iff.1 h).1).trans h
set_option maxHeartbeats 4000000 in
set_option maxRecDepth 100000 in
theorem EPut_is (x : Ent) (A : Option Addr) (c : Nat) (w : World) (hR : RdL w (.slice A x.labs.length c) x.labs) (hT : Tabs w) (hz : entZ x) :
    Calls Tryd.prog 29 #[entV x A c] w (EPutOut x w) := by
  have hRt := fun w1 (g : RdL w1 (.slice A x.labs.length c) x.labs) (hT1 : Tabs w1) => ERight_is x A c w1 g hT1 hz
  have hR1 := fun o => hR.alloc o
  have hT1 := fun o => hT.below ((Below.refl w.heap.size w).alloc (Nat.le_refl _) o)
  cases hr : entR x with
  | false =>
    rw [hr] at hRt
    have HR := hid hr
    clear hr hR hT hz
    unfold entV at *
    go_enter Tryd.func29, Tryd.ntmps29
    go_wp2_with (go_at_call 53; refine (hRt _ (hR1 _) (hT1 _)).mono ?_; rintro e w1 ⟨rfl, b1⟩; clear hRt)
    go_ret2
    unfold EPutOut
    rw [HR.out, if_neg (by decide), if_neg (by decide)]
    exact ⟨_, rfl, Rd.nil _, below_push b1⟩
  | true =>
    rw [hr] at hRt
    have HR := hid hr
    have hr' := hr
    unfold entR at hr'
    simp only [Bool.and_eq_true, decide_eq_true_eq] at hr'
    obtain ⟨⟨⟨⟨s1, s2⟩, u1, u2⟩, l1⟩, hrr⟩ := hr'
    have HB := hid (show entB x = num x.seq.toNat ++ num x.time.toNat ++ txt (str (bytesN x.labs)) ++ txt ⟨x.line.toArray⟩ from rfl)
    have hbl := bytesN_len hrr
    have hB := fun w1 (g : RdL w1 (.slice A x.labs.length c) x.labs) (hT1 : Tabs w1) => Bytes_is _ x.labs w1 g hT1 hrr
    have N1 := fun w1 => Number_yes x.seq w1 (by omega) (by omega)
    have N2 := fun w1 => Number_yes x.time w1 (by omega) (by omega)
    have hn1 := num_len8 (n := x.seq.toNat) (by omega)
    have hn2 := num_len8 (n := x.time.toNat) (by omega)
    have T1 := fun w1 => Text_yes (str (bytesN x.labs)) w1 (by rw [str_len]; omega)
    have ht1 := txt_len2 (str (bytesN x.labs)) (by rw [str_len]; omega)
    rw [str_len] at ht1
    have hls : (⟨x.line.toArray⟩ : ByteArray).size = x.line.length := Lib.size_mk _
    have T2 := fun w1 => Text_yes ⟨x.line.toArray⟩ w1 (by omega)
    have ht2 := txt_len2 ⟨x.line.toArray⟩ (by omega)
    rw [hls] at ht2
    clear hr hrr hR hT hz hls s1 s2 u1 u2
    unfold entV at *
    generalize num x.seq.toNat = m1 at *
    generalize num x.time.toNat = m2 at *
    generalize txt (str (bytesN x.labs)) = m3 at *
    generalize txt ⟨x.line.toArray⟩ = m4 at *
    have cv := fun (v : Value) w1 (h : Rd w1 v (bytesN x.labs)) => conv_rd std h
    have e1 : ([] ++ m1).length + m2.length ≤ 140737488355328 := by simp; omega
    have e2 : (([] ++ m1) ++ m2).length + m3.length ≤ 140737488355328 := by simp; omega
    have e3 : ((([] ++ m1) ++ m2) ++ m3).length + m4.length ≤ 140737488355328 := by simp; omega
    have e0 : ([] : List Nat).length + m1.length ≤ 140737488355328 := by simp; omega
    generalize hmb : bytesN x.labs = mb at *
    clear hbl ht1 ht2 hn1 hn2 l1 hmb
    have t1 := True.intro
    have t2 := True.intro
    have t3 := True.intro
    have t4 := True.intro
    have t5 := True.intro
    have t6 := True.intro
    go_enter Tryd.func29, Tryd.ntmps29
    go_wp2_with (first
      | (go_at_call 53; refine (hRt _ (hR1 _) (hT1 _)).mono ?_; rintro e w1 ⟨rfl, b1⟩; have k1 := box4 b1; have g1 := (hR1 _).below b1; have T1' := (hT1 _).below b1; have c1 := below_push b1; have q2 := held_cell (i := 2) k1 rfl; clear hRt hR1 hT1 b1)
      | (go_at_call 54; refine (hB _ g1 T1').mono ?_; rintro e w2 ⟨vb, rfl, ob, b2⟩; have k2 := keep4 k1 b2; have c2 := c1.trans (b2.mono c1.size); have rb := ob.rd; have q0 := fun o => (World.cell?_alloc_lt w2 o ⟨w.heap.size, 0, none⟩ (Array.getElem?_eq_some_iff.1 k2).1).trans (held_cell (i := 0) k2 rfl); clear hB g1 T1' k1 q2 b2 c1)
      | (clear t1; go_at_call 56; refine (N1 _).mono ?_; rintro e w3 ⟨v3, rfl, o3, b3⟩; have W3 := WrAt.below (WrAt.new w2) b3; have d3 : Below w2.heap.size w2 w3 := below_push b3; have z3 : w2.heap.size + 1 ≤ w3.heap.size := (by have := b3.size; simpa using this); clear N1 q0 b3)
      | (clear t2; go_at_call 55; refine (Eadd_is _ _ _ _ _ _ W3 o3.rd e0 z3).mono ?_; rintro e w4 ⟨rfl, W4, b4⟩; have d4 := d3.trans b4; have z4 := Nat.le_trans z3 b4.size; have q1 := held_cell (i := 1) (keep4 k2 d4) rfl; clear W3 o3 b4 d3 z3 e0)
      | (clear t3; go_at_call 56; refine (N2 _).mono ?_; rintro e w5 ⟨v5, rfl, o5, b5⟩; have W5 := WrAt.below W4 b5; have d5 := d4.trans (b5.mono d4.size); have z5 := Nat.le_trans z4 b5.size; clear N2 q1 b5 W4 d4 z4)
      | (clear t4; go_at_call 55; refine (Eadd_is _ _ _ _ _ _ W5 o5.rd e1 z5).mono ?_; rintro e w6 ⟨rfl, W6, b6⟩; have d6 := d5.trans b6; have z6 := Nat.le_trans z5 b6.size; have cv6 := cv _ _ (rb.below d6); clear W5 o5 b6 d5 z5 e1 cv)
      | (go_at_call 57; refine (T1 _).mono ?_; rintro e w7 ⟨v7, rfl, o7, b7⟩; have W7 := WrAt.below W6 b7; have d7 := d6.trans (b7.mono d6.size); have z7 := Nat.le_trans z6 b7.size; clear T1 cv6 b7 W6 d6 z6)
      | (clear t5; go_at_call 55; refine (Eadd_is _ _ _ _ _ _ W7 o7.rd e2 z7).mono ?_; rintro e w8 ⟨rfl, W8, b8⟩; have d8 := d7.trans b8; have z8 := Nat.le_trans z7 b8.size; have q3 := held_cell (i := 3) (keep4 k2 d8) rfl; clear W7 o7 b8 d7 z7 e2)
      | (go_at_call 57; refine (T2 _).mono ?_; rintro e w9 ⟨v9, rfl, o9, b9⟩; have W9 := WrAt.below W8 b9; have d9 := d8.trans (b9.mono d8.size); have z9 := Nat.le_trans z8 b9.size; clear T2 q3 b9 W8 d8 z8)
      | (clear t6; go_at_call 55; refine (Eadd_is _ _ _ _ _ _ W9 o9.rd e3 z9).mono ?_; rintro e w10 ⟨rfl, W10, b10⟩; have d10 := d9.trans b10; clear W9 o9 b10 d9 z9 e3)
      | (go_at_call 58; refine (Edone_is _ _ _ _ W10).mono ?_; rintro e w11 ⟨v11, rfl, o11, rfl⟩; clear W10)
      | fail)
    go_ret2
    unfold EPutOut
    rw [HR.out, if_pos rfl, if_pos rfl, HB.out]
    exact ⟨_, rfl, o11.rd, c2.trans (d10.mono c2.size)⟩
end Go.Proofs.YtcdfjkhjdiojbaaDoor
