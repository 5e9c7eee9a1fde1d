/-
  What label.Parse answers. Conditions: the text has at most 2^40 bytes; the tables of package utf8 are in place; what an escape stands for is known where there is one.
-/
import Derived.Test.YtlhodanpfpfodaaGreatDoorSort
namespace Go.Proofs.YtlhodanpfpfodaaGreatDoor
open Go.RowKit Go.Icz

def finS : Option (List Lab × B8) → Option (List Lab)
  | none => none
  | some (l, r) => if (signS r 125).2 = true ∧ (signS r 125).1 = [] then some l else none
def loopS : Nat → B8 → List Lab → Option (List Lab × B8)
  | 0, _, _ => none
  | f + 1, s, acc =>
    match pairS s with
    | none => none
    | some (x, r) => if (signS r 44).2 = true then loopS f (signS r 44).1 (acc ++ [x]) else some (acc ++ [x], (signS r 44).1)
/-- The labels that stand in a text, not yet sorted. -/
def parseS (s : B8) : Option (List Lab) := if (signS s 123).2 = true then finS (loopS ((signS s 123).1.length + 1) (signS s 123).1 []) else none

theorem signS_sub (l : B8) (c : UInt8) : (signS l c).1.length ≤ l.length ∧ (∀ b ∈ (signS l c).1, b ∈ l) ∧ ((signS l c).2 = true → (signS l c).1.length + 1 ≤ l.length) := by
  unfold signS
  have h1 := trimL_sub l
  split
  · rename_i hx
    have h2 := trimL_sub ((trimL l).drop 1)
    have h3 : 1 ≤ (trimL l).length := by
      obtain ⟨t, ht⟩ := (hasPrefix_iff _ _).1 hx
      rw [ht]; simp
    rw [List.length_drop] at h2
    exact ⟨by simp only; omega, fun b hb => h1.2 _ (List.mem_of_mem_drop (h2.2 b hb)), fun _ => by simp only; omega⟩
  · exact ⟨Nat.le_refl _, fun b hb => hb, fun h => by cases h⟩
theorem unqF_len : ∀ (f : Nat) (l acc : B8) (n : Nat) (t : B8) (m : Nat), unqF f l acc n = some (t, m) → t.length ≤ acc.length + l.length
  | 0, l, acc, n, t, m, h => by cases h
  | f + 1, l, acc, n, t, m, h => by
    unfold unqF at h
    split at h
    · cases h
    · split at h
      · simp at h
        rw [← h.1]
        omega
      · split at h
        · rename_i hx
          have := unqF_len f _ _ _ t m h
          obtain ⟨v, hv⟩ := (hasPrefix_iff _ _).1 hx
          have e := congrArg List.length hv
          have hq := encodeRune_le_qr _ (nx_le l)
          rw [List.length_append] at e
          rw [List.length_append, List.length_drop] at this
          omega
        · cases h
theorem trimR_len (l : B8) : (trimR l).length ≤ l.length := by
  unfold trimR Lib.trimRightB
  rw [List.length_reverse]
  have := (List.dropWhile_sublist (l := l.reverse) (· == 32)).length_le
  rwa [List.length_reverse] at this
theorem pairS_sub {l : B8} {x : Lab} {r : B8} (h : pairS l = some (x, r)) : r.length ≤ l.length ∧ (∀ b ∈ r, b ∈ l) ∧ x.1.length ≤ l.length ∧ x.2.length ≤ l.length := by
  unfold pairS at h
  have h1 := after_sub l 61
  have h2 := trimL_sub (after l 61)
  have h3 := before_sub l 61
  have h4 := trimR_len (before l 61)
  split at h
  · rename_i t n hu
    injection h with h
    injection h with hx hr
    subst hx hr
    refine ⟨by rw [List.length_drop]; omega, fun b hb => h1.2 _ (h2.2 _ (List.mem_of_mem_drop hb)), by simp only; omega, ?_⟩
    unfold unquoteS at hu
    split at hu
    · have := unqF_len _ _ _ _ _ _ hu
      rw [List.length_drop] at this
      simp at this ⊢
      omega
    · cases hu
  · cases h
def pmeas (ok s : Value) : Nat := match ok with | .bool true => Lib.strSize s + 1 | _ => 0
theorem pmeas_true (l : B8) : pmeas (.bool true) (.string ⟨l.toArray⟩) = l.length + 1 := by unfold pmeas; rw [Lib.strSize_string, Lib.size_mk]
theorem pmeas_false (s : Value) : pmeas (.bool false) s = 0 := rfl
theorem _root_.Go.Icz.OwnL.setCell {w : World} {B : Nat} {v : Value} {l : List Lab} (h : OwnL w B v l) {p : Addr} (hp : p.block < B) (u : Value) : OwnL (w.setCell p u) B v l := by
  refine World.ownsRow.kept (row := some p.block) h ⟨rfl, rfl, rfl, by simp [World.setCell], fun k _ hk => Below.heap_setCell _ _ _ _ (fun e => hk (by simp [e]))⟩ (Or.inr ?_)
  intro e
  have := World.ownsRow.lt h _ e
  omega
theorem RdL.one (w : World) (x : Lab) : RdL (w.alloc (.cells #[.string ⟨x.1.toArray⟩, .string ⟨x.2.toArray⟩] 53)) (.slice (some ⟨w.heap.size, 0, none⟩) 1 1) [x] := by
  have h := heap_alloc_new w (.cells #[.string ⟨x.1.toArray⟩, .string ⟨x.2.toArray⟩] 53)
  refine ⟨_, 1, rfl, by simp, fun _ => ⟨w.heap.size, 0, rfl, by simp, fun j hj => ?_⟩⟩
  have : j = 0 := by simpa using hj
  subst this
  exact ⟨held_cell h rfl, held_cell h rfl⟩

theorem set_heap {w : World} {b : Nat} {u v : Value} {t : TypeId} (h : w.heap[b]? = some (.cells #[u, v] t (0, 0))) (x y : Value) :
    ((w.setCell ⟨b, 0, none⟩ x).setCell ⟨b, 1, none⟩ y).heap[b]? = some (.cells #[x, y] t (0, 0)) := by
  simp [World.setCell, Array.getElem?_modify, h]
theorem RdL.one2 (w2 : World) (b : Nat) (y : Lab) : RdL (((w2.setCell ⟨b, 0, none⟩ (.string ⟨y.1.toArray⟩)).setCell ⟨b, 1, none⟩ (.string ⟨y.2.toArray⟩)).alloc (.cells #[.string ⟨y.1.toArray⟩, .string ⟨y.2.toArray⟩] 53)) (.slice (some ⟨w2.heap.size, 0, none⟩) 1 1) [y] := by
  have h := RdL.one ((w2.setCell ⟨b, 0, none⟩ (.string ⟨y.1.toArray⟩)).setCell ⟨b, 1, none⟩ (.string ⟨y.2.toArray⟩)) y
  have hz : ((w2.setCell ⟨b, 0, none⟩ (.string ⟨y.1.toArray⟩)).setCell ⟨b, 1, none⟩ (.string ⟨y.2.toArray⟩)).heap.size = w2.heap.size := by simp [World.setCell]
  rw [hz] at h
  exact h
/-- What Parse answers. -/
def ParseOut (o : Option (List Lab)) (w : World) (e : Ending) (w' : World) : Prop :=
  (match o with
    | some l => (16 < l.length ∧ e = .returned (.tuple #[.slice none 0 0, .int .i64 30])) ∨
      ∃ d, Sorts l d ∧ ((rightS d = true ∧ ∃ v, e = .returned (.tuple #[v, .int .i64 0]) ∧ RdL w' v d) ∨ (rightS d = false ∧ e = .returned (.tuple #[.slice none 0 0, .int .i64 30])))
    | none => e = .returned (.tuple #[.slice none 0 0, .int .i64 30])) ∧ Below w.heap.size w w'
/-- What holds at each jump to the label. -/
def NoParse (l : B8) (w : World) (a : Act) (w' : World) : Prop := ∃ t0 t1 t2 t3 t4 t5 t6 t7 t8 t9 t10 t11 t12 t13 t14 t15 t16 t17 t18 t19 t20 t21 t22 t23 t24 t25 t26 t27 t28 t29 t30 t31 t32 t33 t34 t35 t36 t37 t38 t39 t40 t41 t42 t43 t44 t45 t46 : Value, a = { tmps := #[t0, t1, t2, t3, t4, t5, t6, t7, t8, t9, t10, t11, t12, t13, t14, t15, t16, t17, t18, t19, t20, t21, t22, t23, t24, t25, t26, t27, t28, t29, t30, t31, t32, t33, t34, t35, t36, t37, t38, t39, t40, t41, t42, t43, t44, t45, t46], defers := [] } ∧ Below w.heap.size w w' ∧ parseS l = none

set_option maxHeartbeats 2000000 in
set_option maxRecDepth 100000 in
theorem Parse_is (l0 : B8) (w : World) (hs : l0.length ≤ 1099511627776) (hT : Tabs w) (hM : MeantL l0) :
    Calls Tryz.prog 11 #[.string ⟨l0.toArray⟩] w (ParseOut (parseS l0) w) := by
  have h0 := signS_sub l0 123
  have hS0 := fun w => sign_is ⟨l0.toArray⟩ 123 w
  have hP0 : Hid (parseS l0 = if (signS l0 123).2 = true then finS (loopS ((signS l0 123).1.length + 1) (signS l0 123).1 []) else none) := hid rfl
  simp only [] at hS0
  generalize signS l0 123 = q at *
  obtain ⟨s1, ok1⟩ := q
  go_enter Tryz.func11, Tryz.ntmps11
  go_wp2
  refine wp_scope_jumps 0 (NoParse l0 w) (fun _ _ => 0) rfl ?_ ?_
  case refine_2 =>
    rintro a w' ⟨t0, t1, t2, t3, t4, t5, t6, t7, t8, t9, t10, t11, t12, t13, t14, t15, t16, t17, t18, t19, t20, t21, t22, t23, t24, t25, t26, t27, t28, t29, t30, t31, t32, t33, t34, t35, t36, t37, t38, t39, t40, t41, t42, t43, t44, t45, t46, rfl, hb, hn⟩
    go_wp2
    change bodyPost Tryz.prog Tryz.f11 (ParseOut (parseS l0) w) Exit.ret _ _
    go_ret2
    rw [hn]
    exact ⟨rfl, hb⟩
  cases ok1 with
  | false =>
    have HN : Hid (parseS l0 = none) := hid (by rw [hP0.out]; rfl)
    go_wp2_with (go_at_call 33; refine (hS0 _).mono ?_; rintro e w1 ⟨rfl, b1⟩; clear hS0)
    go_step3
    exact ⟨rfl, _, _, _, _, _, _, _, _, _, _, _, _, _, _, _, _, _, _, _, _, _, _, _, _, _, _, _, _, _, _, _, _, _, _, _, _, _, _, _, _, _, _, _, _, _, _, _, rfl, below_push b1, HN.out⟩
  | true =>
    have HP : Hid (parseS l0 = finS (loopS (s1.length + 1) s1 [])) := hid (by rw [hP0.out]; rfl)
    go_wp2_with (go_at_call 33; refine (hS0 _).mono ?_; rintro e w1 ⟨rfl, b1⟩; clear hS0)
    have bw1 := below_push b1
    have hk1 : w1.heap[w.heap.size]? = some (.cells #[.string ⟨#[]⟩, .string ⟨#[]⟩] 53 (0, 0)) := (b1.block _ (by simp)).trans (heap_alloc_new w (.cells #[.string ⟨#[]⟩, .string ⟨#[]⟩] 53))
    clear hP0 b1
    go_loopw [0, 4, 6] (fun sv lv ov wr => ∃ (cur : B8) (acc : List Lab) (ok : Bool) (f : Nat) (x : Lab), sv = .string ⟨cur.toArray⟩ ∧ ov = .bool ok ∧ OwnL wr (w.heap.size + 1) lv acc ∧ Below w.heap.size w wr ∧
      wr.heap[w.heap.size]? = some (.cells #[.string ⟨x.1.toArray⟩, .string ⟨x.2.toArray⟩] 53 (0, 0)) ∧ Hid (parseS l0 = finS (if ok = true then loopS f cur acc else some (acc, cur))) ∧ cur.length ≤ l0.length ∧ (ok = true → cur.length < f ∧ acc.length + cur.length ≤ l0.length) ∧
      Hid (∀ b ∈ cur, b ∈ l0) ∧ Hid (∀ x ∈ acc, x.1.length ≤ l0.length ∧ x.2.length ≤ l0.length)) (fun sv _ ov _ => pmeas ov sv)
    case atStart => exact ⟨s1, [], true, s1.length + 1, ([], []), rfl, rfl, OwnL.nil _ _, bw1, hk1, hid (by rw [HP.out]; rfl), by omega, fun _ => ⟨by omega, by simp; omega⟩, hid h0.2.1, hid (by simp)⟩
    case round =>
      obtain ⟨cur, acc, ok, f, x, rfl, rfl, hown, hbw, hk, HX, hcl, hfa, HM, HL⟩ := hrel
      have hsz : w.heap.size < wr.heap.size := (Array.getElem?_eq_some_iff.1 hk).1
      have hTr := hT.below hbw
      cases ok with
      | false =>
        have hS := fun w => sign_is ⟨cur.toArray⟩ 125 w
        simp only [] at hS
        have HX2 : Hid (parseS l0 = if (signS cur 125).2 = true ∧ (signS cur 125).1 = [] then some acc else none) := hid HX.out
        have hRd := hown.rd
        generalize signS cur 125 = q at *
        obtain ⟨s2, ok2⟩ := q
        have hTb := fun w' (b : Below wr.heap.size wr w') => hTr.below b
        cases ok2 with
        | false =>
          have HN : Hid (parseS l0 = none) := hid (by rw [HX2.out]; rfl)
          clear hTb hTr
          go_wp2_with (go_at_call 33; refine (hS _).mono ?_; rintro e w2 ⟨rfl, b2⟩; clear hS)
          go_step3
          exact ⟨rfl, _, _, _, _, _, _, _, _, _, _, _, _, _, _, _, _, _, _, _, _, _, _, _, _, _, _, _, _, _, _, _, _, _, _, _, _, _, _, _, _, _, _, _, _, _, _, _, rfl, hbw.trans (b2.mono (by omega)), HN.out⟩
        | true =>
          cases s2 with
          | cons c2 t2 =>
            have HN : Hid (parseS l0 = none) := hid (by rw [HX2.out]; simp)
            clear hTb hTr
            go_wp2_with (go_at_call 33; refine (hS _).mono ?_; rintro e w2 ⟨rfl, b2⟩; clear hS)
            go_step3
            exact ⟨rfl, _, _, _, _, _, _, _, _, _, _, _, _, _, _, _, _, _, _, _, _, _, _, _, _, _, _, _, _, _, _, _, _, _, _, _, _, _, _, _, _, _, _, _, _, _, _, _, rfl, hbw.trans (b2.mono (by omega)), HN.out⟩
          | nil =>
            have HN : Hid (parseS l0 = some acc) := hid (by rw [HX2.out]; simp)
            have hSo := fun w' (b : Below wr.heap.size wr w') => Sort_is _ acc w' (hRd.below b) (hTb w' b) (fun x hx => ⟨by have := (HL.out x hx).1; omega, by have := (HL.out x hx).2; omega⟩)
            clear hTb hTr hRd hown
            go_wp2_with (go_at_call 33; refine (hS _).mono ?_; rintro e w2 ⟨rfl, b2⟩; clear hS)
            refine (hSo w2 b2).mono ?_
            rintro e w3 ⟨h3 | ⟨d, hd, h3 | h3⟩, b3⟩
            · obtain ⟨h3, rfl⟩ := h3
              go_wp2
              change bodyPost Tryz.prog Tryz.f11 (ParseOut (parseS l0) w) Exit.ret _ _
              go_ret2
              rw [HN.out]
              exact ⟨.inl ⟨h3, rfl⟩, hbw.trans ((b2.trans (b3.mono b2.size)).mono (by omega))⟩
            · obtain ⟨h3, v, rfl, h4⟩ := h3
              go_wp2
              change bodyPost Tryz.prog Tryz.f11 (ParseOut (parseS l0) w) Exit.ret _ _
              go_ret2
              rw [HN.out]
              exact ⟨.inr ⟨d, hd, .inl ⟨h3, v, rfl, h4⟩⟩, hbw.trans ((b2.trans (b3.mono b2.size)).mono (by omega))⟩
            · obtain ⟨h3, rfl⟩ := h3
              go_wp2
              change bodyPost Tryz.prog Tryz.f11 (ParseOut (parseS l0) w) Exit.ret _ _
              go_ret2
              rw [HN.out]
              exact ⟨.inr ⟨d, hd, .inr ⟨h3, rfl⟩⟩, hbw.trans ((b2.trans (b3.mono b2.size)).mono (by omega))⟩
      | true =>
        have hP := fun w hT => pair_is ⟨cur.toArray⟩ w (by rw [Lib.size_mk]; omega) hT (hM.sub (HM.out 92) (by simp only; omega))
        simp only [] at hP
        obtain ⟨hf, hal⟩ := hfa rfl
        clear hfa
        obtain ⟨f, rfl⟩ : ∃ g, f = g + 1 := ⟨f - 1, by omega⟩
        have hX := HX.out
        rw [if_pos rfl, loopS] at hX
        cases hp : pairS cur with
        | none =>
          rw [hp] at hX hP
          have HN : Hid (parseS l0 = none) := hid hX
          clear hX
          go_wp2_with (go_at_call 34; refine (hP _ hTr).mono ?_; rintro e w2 ⟨rfl, b2⟩; clear hP; have c0 := held_cell (i := 0) (v := .string ⟨x.1.toArray⟩) ((b2.block _ hsz).trans hk) rfl; have c1 := held_cell (i := 1) (v := .string ⟨x.2.toArray⟩) ((b2.block _ hsz).trans hk) rfl; have f0 := held_frozen (i := 0) ((b2.block _ hsz).trans hk); have f1 := held_frozen (i := 1) ((b2.block _ hsz).trans hk))
          go_step3
          exact ⟨rfl, _, _, _, _, _, _, _, _, _, _, _, _, _, _, _, _, _, _, _, _, _, _, _, _, _, _, _, _, _, _, _, _, _, _, _, _, _, _, _, _, _, _, _, _, _, _, _, rfl, ((hbw.trans (b2.mono (by omega))).setCell (p := ⟨w.heap.size, 0, none⟩) (Nat.le_refl _) _).setCell (p := ⟨w.heap.size, 1, none⟩) (Nat.le_refl _) _, HN.out⟩
        | some pr =>
          obtain ⟨y, r⟩ := pr
          have hsub := pairS_sub hp
          rw [hp] at hX hP
          simp only [] at hX
          have hS := fun w => sign_is ⟨r.toArray⟩ 44 w
          simp only [] at hS
          have hsg := signS_sub r 44
          generalize signS r 44 = q at *
          obtain ⟨s2, ok2⟩ := q
          have HX2 : Hid (parseS l0 = finS (if ok2 = true then loopS f s2 (acc ++ [y]) else some (acc ++ [y], s2))) := hid hX
          have hlen4 : (acc.length + [y].length) * 32 ≤ 140737488355328 := by simp; omega
          clear hX hp HX
          go_wp2_with (first | (go_at_call 34; refine (hP _ hTr).mono ?_; rintro e w2 ⟨rfl, b2⟩; clear hP; have hk2 := (b2.block _ hsz).trans hk; have c0 := held_cell (i := 0) (v := .string ⟨x.1.toArray⟩) hk2 rfl; have c1 := held_cell (i := 1) (v := .string ⟨x.2.toArray⟩) hk2 rfl; have f0 := held_frozen (i := 0) hk2; have f1 := held_frozen (i := 1) hk2; have hsc := set_cells hk2 (.string ⟨y.1.toArray⟩) (.string ⟨y.2.toArray⟩); have s0 := hsc.1; have s1 := hsc.2; have o2 := ((hown.below b2).setCell (p := ⟨w.heap.size, 0, none⟩) (Nat.lt_succ_self _) (.string ⟨y.1.toArray⟩)).setCell (p := ⟨w.heap.size, 1, none⟩) (Nat.lt_succ_self _) (.string ⟨y.2.toArray⟩); have hz2 : ∀ o, w.heap.size + 1 ≤ (((w2.setCell ⟨w.heap.size, 0, none⟩ (.string ⟨y.1.toArray⟩)).setCell ⟨w.heap.size, 1, none⟩ (.string ⟨y.2.toArray⟩)).alloc o).heap.size := fun o => by { have := b2.size; simp [World.setCell]; omega }; clear hsc) | (at_builtin; refine wp_appL rfl (.tmp 23) (.tmp 25) rfl (w.heap.size + 1) _ _ acc [y] rfl (o2.alloc _) rfl (RdL.one2 _ _ y) hlen4 (hz2 _) ?_; intro v4 w4 o4 b4 _; clear o2 hz2) | (go_at_call 33; refine (hS _).mono ?_; rintro e w5 ⟨rfl, b5⟩; clear hS))
          have bW3 := ((hbw.trans (b2.mono (by omega))).setCell (p := ⟨w.heap.size, 0, none⟩) (Nat.le_refl _) (.string ⟨y.1.toArray⟩)).setCell (p := ⟨w.heap.size, 1, none⟩) (Nat.le_refl _) (.string ⟨y.2.toArray⟩)
          have bW4 := (bW3.alloc bW3.size _).trans (b4.mono (Nat.le_succ _))
          have hN3 := set_heap hk2 (.string ⟨y.1.toArray⟩) (.string ⟨y.2.toArray⟩)
          have hlt3 : w.heap.size < ((w2.setCell ⟨w.heap.size, 0, none⟩ (.string ⟨y.1.toArray⟩)).setCell ⟨w.heap.size, 1, none⟩ (.string ⟨y.2.toArray⟩)).heap.size := (Array.getElem?_eq_some_iff.1 hN3).1
          have hN4 := (b4.block _ (Nat.lt_succ_self _)).trans ((Below.heap_alloc _ _ _ hlt3).trans hN3)
          have hlt4 : w.heap.size < w4.heap.size := (Array.getElem?_eq_some_iff.1 hN4).1
          refine ⟨⟨s2, acc ++ [y], ok2, f, y, rfl, rfl, o4.below b5, bW4.trans (b5.mono bW4.size), (b5.block _ hlt4).trans hN4, HX2, by omega, fun hok => ⟨by have := hsg.2.2 hok; omega, by have := hsg.2.2 hok; simp; omega⟩, hid (fun b hb => HM.out b (hsub.2.1 b (hsg.2.1 b hb))), hid (fun z hz => ?_)⟩, ?_⟩
          · rcases List.mem_append.1 hz with h | h
            · exact HL.out z h
            · simp at h
              subst h
              have := hsub.2.2
              omega
          · rw [pmeas_true]
            cases ok2 with
            | true =>
              rw [pmeas_true]
              have := hsg.2.2 rfl
              omega
            | false =>
              rw [pmeas_false]
              omega
end Go.Proofs.YtlhodanpfpfodaaGreatDoor
