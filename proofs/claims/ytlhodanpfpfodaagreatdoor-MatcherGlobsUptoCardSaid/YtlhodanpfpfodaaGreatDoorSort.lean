/-
  What label.Sort answers. Conditions: the tables of package utf8 are in place; sizes as each theorem names.
-/
import Derived.Test.YtlhodanpfpfodaaGreatDoorRight
import Derived.Test.YtlhodanpfpfodaaGreatDoorShelfS
import Derived.Test.YtlhodanpfpfodaaGreatDoorOrder
import Derived.Shelf.SlSortCmp.NoneTotal
namespace Go.Proofs.YtlhodanpfpfodaaGreatDoor
open Go.RowKit Go.Icz Go.Lib Go.Sort

def encL (x : Lab) : List Value := [.string ⟨x.1.toArray⟩, .string ⟨x.2.toArray⟩]
theorem swoN : SWO (ltOf cmpN) := by
  have B := bytesCmp
  refine ⟨fun x => ?_, fun x y z h1 h2 => ?_, fun x y z h1 h2 => ?_⟩
  · unfold ltOf cmpN
    rw [(B.eq _ _).2 rfl]
    rfl
  · unfold ltOf cmpN at *
    simp only [decide_eq_true_eq] at *
    have h3 := B.le x.1 y.1 z.1 (by omega) (by omega)
    have : compareBytes x.1 z.1 ≠ 0 := fun e => by
      have e3 := (B.eq _ _).1 e
      rw [e3] at h1
      have := B.neg z.1 y.1
      omega
    omega
  · unfold ltOf cmpN at *
    simp only [decide_eq_false_iff_not] at *
    have n1 := B.neg x.1 y.1
    have n2 := B.neg y.1 z.1
    have n3 := B.neg x.1 z.1
    have := B.le z.1 y.1 x.1 (by omega) (by omega)
    omega

set_option maxHeartbeats 1000000 in
theorem closure43 (x y : Lab) (W : World) : Calls Tryz.prog 79 #[.agg #[.string ⟨x.1.toArray⟩, .string ⟨x.2.toArray⟩], .agg #[.string ⟨y.1.toArray⟩, .string ⟨y.2.toArray⟩]] W fun e w' => e = .returned (.int .i64 (cmpN x y)) ∧ ∃ q os', w' = grow (W.drewN q) os' := by
  have hcon := fun W' => Tryz.strings_Compare ⟨x.1.toArray⟩ ⟨y.1.toArray⟩ W'
  have e1 : compareBytes (⟨x.1.toArray⟩ : ByteArray).data.toList (⟨y.1.toArray⟩ : ByteArray).data.toList = cmpN x y := rfl
  rw [e1] at hcon
  generalize cmpN x y = r at hcon ⊢
  go_enter Tryz.func79, Tryz.ntmps79
  go_wp2_with (go_at_call 80; refine (hcon _).mono ?_; rintro e w' ⟨rfl, rfl⟩)
  go_ret
  exact ⟨rfl, 0, _, by rw [alloc_eq_grow, alloc_eq_grow, grow_grow]; rfl⟩
theorem cmpLays43 (blk off size : Nat) (w : World) : CmpLays Tryz.prog 79 #[] encL 2 cmpN blk off size w := fun _ _ _ _ x y => closure43 x y _

/-- What sorting gives: the same labels, no name below the one ahead. -/
def Sorts (l d : List Lab) : Prop := d.Perm l ∧ d.Pairwise (fun x y => ¬ compareBytes y.1 x.1 < 0)

theorem own_holds {w : World} {B : Nat} {v : Value} {l : List Lab} (h : OwnL w B v l) (hv : v ≠ .slice none 0 0) : ∃ g cap, v = .slice (some ⟨g, 0, none⟩) l.length cap ∧ B ≤ g ∧ g < w.heap.size ∧ l.length ≤ cap ∧ HoldsK encL 2 w g 0 l.toArray := by
  rcases h.2 with ⟨hv', _⟩ | ⟨g, cap, cur, hv', hg, hh, hnc, r⟩
  · exact absurd hv' hv
  · refine ⟨g, cap, hv', hg, (Array.getElem?_eq_some_iff.1 hh).1, hnc, fun j hj => ?_⟩
    rw [size_flatK] at hj
    have hj' : j / 2 < l.length := by simp at hj; omega
    refine ⟨?_, by simp [World.frozen?, hh]⟩
    rw [get_flatK _ _ _ _ hj]
    have hc := cellsL_get l (j / 2) hj'
    have hd : l.toArray[j / 2]! = l[j / 2] := by simp [hj']
    rw [hd, ← add_flat]
    refine World.ownsRow.cells h (g := g) (by rw [hv']; rfl) j _ ?_
    rcases Nat.mod_two_eq_zero_or_one j with e | e
    · rw [e]
      have : j = j / 2 * 2 := by omega
      conv => lhs; rw [this]
      exact hc.1
    · rw [e]
      have : j = j / 2 * 2 + 1 := by omega
      conv => lhs; rw [this]
      exact hc.2
theorem sorted_rd {w : World} {g cap n : Nat} {os : Array Obj} {l : List Lab} {d : Array Lab} (hH : HoldsK encL 2 w g 0 l.toArray) (hg : g < w.heap.size) (hs : d.size = l.length) (hc : l.length ≤ cap) :
    RdL (sortWorldK encL 2 w g 0 n d os) (.slice (some ⟨g, 0, none⟩) l.length cap) d.toList := by
  have h1 : HoldsK encL 2 (sortWorldK encL 2 w g 0 n d os) g 0 d :=
    holdsK_grow encL 2 _ os g 0 d (by rw [size_putRowK]; exact hg) (holdsK_putRowK encL 2 (Sort.ahead w n) g 0 l.toArray d (holdsK_ahead encL 2 w n g 0 _ hH) (by simp [hs]))
  have hsz : g < (sortWorldK encL 2 w g 0 n d os).heap.size := by unfold sortWorldK grow; simp [size_putRowK]; exact Nat.lt_of_lt_of_le hg (Nat.le_add_right _ _)
  have hl : d.toList.length = l.length := by rw [Array.length_toList]; exact hs
  refine ⟨_, cap, by rw [hl], by rw [hl]; exact hc, fun _ => ⟨g, 0, rfl, hsz, fun j hj => ?_⟩⟩
  rw [Array.length_toList] at hj
  have hd : d[j]! = d.toList[j] := by rw [getElem!_pos d j hj]; rfl
  refine ⟨?_, ?_⟩
  · have := (h1.cell (i := j) (c := 0) hj (by decide)).1
    rw [hd] at this
    exact this
  · have := (h1.cell (i := j) (c := 1) hj (by decide)).1
    rw [hd] at this
    exact this
theorem sorted_below {w : World} {g n B : Nat} {os : Array Obj} {d : Array Lab} (hg : B ≤ g) (hB : B ≤ w.heap.size) : Below B w (sortWorldK encL 2 w g 0 n d os) := by
  refine ⟨rfl, rfl, rfl, ?_, fun k hk => ?_⟩
  · unfold sortWorldK grow
    simp [size_putRowK, Sort.ahead]
  · unfold sortWorldK grow putRowK putRow mapBlock
    simp only []
    rw [Array.getElem?_append_left (by simp [Sort.ahead]; omega)]
    simp only [Array.getElem?_modify, Sort.ahead]
    rw [if_neg (by omega)]

/-- What Sort answers. -/
def SortOut (l : List Lab) (w : World) (e : Ending) (w' : World) : Prop :=
  ((16 < l.length ∧ e = .returned (.tuple #[.slice none 0 0, .int .i64 30])) ∨
    ∃ d, Sorts l d ∧ ((rightS d = true ∧ ∃ v, e = .returned (.tuple #[v, .int .i64 0]) ∧ RdL w' v d) ∨ (rightS d = false ∧ e = .returned (.tuple #[.slice none 0 0, .int .i64 30])))) ∧ Below w.heap.size w w'
theorem infoLab : (Tryz.prog.info? 53).map (fun i => (i.zero, i.size, i.bytes)) = some (some (.agg #[.string ⟨#[]⟩, .string ⟨#[]⟩]), 2, 32) := by kernel_rfl
set_option maxRecDepth 100000 in
/-- 'append(v, x...)', x labels that can be read. -/
theorem wp_appL {ops : Array Oper} {rest : List Oper} {o : Oper} {a : Act} {Q : Exit → Act → World → Prop} {w : World} (hgd : o.guard = none) (s x : Operand)
    (ho : o.op = .call { callee := .builtin .append, args := #[s, x], argTypes := #[22, 22] })
    (B : Nat) (v u : Value) (l m : List Lab) (hs : a.eval s = v) (hown : OwnL w B v l) (hx : a.eval x = u) (hr : RdL w u m)
    (hlen : (l.length + m.length) * 32 ≤ 140737488355328) (hB : B ≤ w.heap.size)
    (h : ∀ v' w', OwnL w' B v' (l ++ m) → Below B w w' → (v ≠ .slice none 0 0 → v' ≠ .slice none 0 0) → wpList Tryz.prog ops Q rest (a.put o.dst v') w') :
    wpList Tryz.prog ops Q (o :: rest) a w := by
  obtain ⟨i0, hi, hz0, hz1, hz2⟩ := info_parts infoLab
  obtain ⟨A, c, rfl, hc, hcell⟩ := hr
  rcases A with _ | ad
  · have hm : m = [] := by
      rcases Nat.eq_zero_or_pos m.length with h0 | h0
      · exact List.eq_nil_of_length_eq_zero h0
      · obtain ⟨b, off, e, _⟩ := hcell h0
        cases e
    subst hm
    refine wpList_plain hgd fun K hK => ?_
    unfold Oper.wp execOp
    have hrun : (Builtin.append_ #[22, 22] o.type #[v, .slice none 0 c]).run Tryz.prog w = .ok v w := by
      rcases hown.2 with ⟨rfl, _⟩ | ⟨g, cap, cur, rfl, _, _, hnc, _⟩
      · simp [Builtin.append_, run_underlying Tryz.underlying22, Go.sizeOf, typeInfo, hi, Builtin.lenOf, Builtin.firstCells]
      · simp [Builtin.append_, run_underlying Tryz.underlying22, Go.sizeOf, typeInfo, hi, Builtin.lenOf, Builtin.firstCells, hnc, storeCells]
    simp only [ho, resolve, invoke, builtin, Sem.run_bind, Sem.run_pure, Result.andThen_ok, List.map_toArray, List.map_cons, List.map_nil, hs, hx, List.length_nil, hrun]
    exact hK _ _ (h v w (by simpa using hown) (Below.refl _ _) (fun h => h))
  · refine wpList_append_own _ hgd s x 22 ho B 53 i0 (.agg #[.string ⟨#[]⟩, .string ⟨#[]⟩]) 2 32 Tryz.underlying22 hi hz0 hz1 hz2 rfl (by decide) v l.length (cellsL l) hs hown ad m.length c (cellsL m) hx (cellsL_len m) ?_ (cellsL_one m) ?_ hlen hB ?_
    · intro j u hu
      have hj : j < m.length * 2 := by rw [← cellsL_len]; exact (List.getElem?_eq_some_iff.1 hu).1
      obtain ⟨b, off, e, _, hcc⟩ := hcell (by omega)
      injection e with e
      subst e
      have hh := hcc (j / 2) (by omega)
      have hg := cellsL_get m (j / 2) (by omega)
      rw [add_flat]
      rcases Nat.mod_two_eq_zero_or_one j with e2 | e2
      · rw [show j = j / 2 * 2 by omega] at hu ⊢
        rw [hg.1] at hu
        rw [← hu]
        exact hh.1
      · rw [show j = j / 2 * 2 + 1 by omega] at hu ⊢
        rw [hg.2] at hu
        rw [← hu, ← Nat.add_assoc]
        exact hh.2
    · unfold maxLen; omega
    · intro v' w' h1 h2 h3
      refine h v' w' (by unfold OwnL; rw [cellsL_app, List.length_append]; exact h1) ((Below.refl B w).grown h2 hB (fun k hk => (World.ownsRow.lt hown k hk).1)) (fun hv e => hv (h3.1 e).1)
theorem OwnL.made (w : World) {B : Nat} (hB : B ≤ w.heap.size) : OwnL (w.alloc (.cells #[] 53)) B (.slice (some ⟨w.heap.size, 0, none⟩) 0 0) [] :=
  World.ownsRow_made w #[] 0 hB (by decide) rfl
theorem clone_is (v : Value) (l : List Lab) (w : World) (hR : RdL w v l) (hlen : l.length * 32 ≤ 140737488355328) :
    Calls Tryz.prog 77 #[v] w fun e w' => ∃ v', e = .returned v' ∧ Below w.heap.size w w' ∧ ((v' = .slice none 0 0 ∧ l = []) ∨ (OwnL w' w.heap.size v' l ∧ v' ≠ .slice none 0 0)) := by
  have hR' := hR
  obtain ⟨A, c, rfl, hlc, hcell⟩ := hR'
  rcases A with _ | ad
  · have hl : l = [] := by
      rcases Nat.eq_zero_or_pos l.length with h0 | h0
      · exact List.eq_nil_of_length_eq_zero h0
      · obtain ⟨b, off, e, _⟩ := hcell h0
        cases e
    refine (AnyE.slices_Clone_nil Tryz.cloneL l.length c w).mono ?_
    rintro e w' ⟨rfl, rfl⟩
    exact ⟨_, rfl, Below.refl _ _, .inl ⟨rfl, hl⟩⟩
  · clear hcell
    have q22 : ∀ (w : World) (a : Option Addr) (n c n' c' : Nat), (binOp .eql 22 (.slice a n c) (.slice none n' c')).run Tryz.prog w = .ok (.bool a.isNone) w := fun w a n c n' c' => Lib.run_eql_slice_nil w _ _ a n c n' c' Tryz.underlying22
    have hR2 := fun o => hR.alloc o
    go_enter Tryz.func77, Tryz.ntmps77
    go_wp2_with (at_builtin; refine wp_appL rfl (.tmp 5) (.tmp 6) rfl w.heap.size _ _ [] l rfl (OwnL.made w (Nat.le_refl _)) rfl (hR2 _) (by simpa using hlen) (by simp) ?_; intro v' w1 hown hb hn)
    go_ret
    exact ⟨v', rfl, below_alloc (Nat.le_refl _) hb, .inr ⟨by simpa using hown, hn (fun e => by have e' : (Value.slice (some ⟨w.heap.size, 0, none⟩) 0 0) = .slice none 0 0 := e; cases e')⟩⟩

theorem sorts_of {l : List Lab} {d : Array Lab} (hp : PermIn 0 l.toArray.size l.toArray d) (hs : SortedIn (ltOf cmpN) 0 l.toArray.size d) : Sorts l d.toList ∧ d.size = l.length := by
  obtain ⟨h1, _, h3⟩ := hp
  have hd : d.size = l.length := by simpa using h1
  rw [Array.extract_eq_self_of_le (by omega), Array.extract_eq_self_of_le (by omega)] at h3
  refine ⟨⟨by simpa using h3, ?_⟩, hd⟩
  rw [List.pairwise_iff_getElem]
  intro i j hi hj hij
  rw [Array.length_toList] at hi hj
  have := hs i j (by omega) hij (by rw [h1] at hj; exact hj)
  rw [getElem!_pos d j hj, getElem!_pos d i hi] at this
  unfold ltOf cmpN at this
  simpa using this
theorem sortFunc_is {w : World} {g cap : Nat} {l : List Lab} (hH : HoldsK encL 2 w g 0 l.toArray) (hg : g < w.heap.size) (hl : l.length ≤ 16) :
    Calls Tryz.prog 78 #[.slice (some ⟨g, 0, none⟩) l.length cap, .func (.func 79) #[] #[]] w fun e w' => e = .returned (.tuple #[]) ∧ ∃ (d : Array Lab) (n : Nat) (os : Array Obj), Sorts l d.toList ∧ d.size = l.length ∧ w' = sortWorldK encL 2 w g 0 n d os := by
  have eg : ∀ args w, (callFunc 79 args).run Tryz.prog w = .ok (.enter 79 args) w := enters_of Tryz.func79 (by kernel_rfl) rfl
  have h := AnyQ.slices_SortFunc Tryz.sortL 2 Tryz.isAgg53 Tryz.sizeOf53 encL (fun _ => rfl) (fun x v hv => by simp [encL] at hv; rcases hv with rfl | rfl <;> rfl) cmpN swoN 79 #[] g 0 cap l.toArray w eg (cmpLays43 g 0 l.toArray.size w) hH hg (by simp; omega)
  refine Calls.mono h ?_
  rintro e w' ⟨rfl, d, n, os, hp, hs, rfl⟩
  obtain ⟨h1, h2⟩ := sorts_of hp hs
  exact ⟨rfl, d, n, os, h1, h2, rfl⟩

set_option maxHeartbeats 1000000 in
set_option maxRecDepth 100000 in
theorem Sort_is (v : Value) (l : List Lab) (w : World) (hR : RdL w v l) (hT : Tabs w) (hsz : ∀ x ∈ l, x.1.length ≤ 9223372036854775807 ∧ x.2.length ≤ 9223372036854775807) :
    Calls Tryz.prog 35 #[v] w (SortOut l w) := by
  have hR' := hR
  obtain ⟨A, c, rfl, hlc, hcell⟩ := hR'
  clear hcell
  by_cases h16 : 16 < l.length
  · go_enter Tryz.func35, Tryz.ntmps35
    go_wp2
    go_ret2
    exact ⟨.inl ⟨h16, rfl⟩, Below.refl _ _⟩
  · have hcl := clone_is _ l w hR (by omega)
    by_cases h0 : l = []
    · subst h0
      have hnone := fun p cap fv w => AnyF.slices_SortFunc_none Tryz.sortL p cap fv w
      have hnone' : ∀ p cap fv w, Calls Tryz.prog 78 #[.slice p 0 cap, fv] w fun e w' => e = .returned (.tuple #[]) ∧ w' = w := hnone
      have hrt : rightS [] = false := rfl
      have key : ∀ w1 v', Below w.heap.size w w1 → ((v' = .slice none 0 0 ∧ ([] : List Lab) = []) ∨ (OwnL w1 w.heap.size v' [] ∧ v' ≠ .slice none 0 0)) → ∃ p cap, v' = .slice p 0 cap ∧ RdL w1 (.slice p 0 cap) [] ∧ Tabs w1 := by
        rintro w1 v' hb (⟨rfl, _⟩ | ⟨h1, _⟩)
        · exact ⟨none, 0, rfl, RdL.nil _, hT.below hb⟩
        · obtain ⟨A, c, hv, hc, hr⟩ := h1.rd
          have hv' : v' = .slice A 0 c := hv
          subst hv'
          exact ⟨A, c, rfl, h1.rd, hT.below hb⟩
      clear hnone
      go_enter Tryz.func35, Tryz.ntmps35
      go_wp2_with (go_at_call 77; refine hcl.mono ?_; rintro e w1 ⟨v', rfl, b1, ho⟩; obtain ⟨p, cap, rfl, hr1, hT1⟩ := key _ _ b1 ho; clear key hcl ho)
      refine (hnone' _ _ _ _).mono ?_
      rintro e w2 ⟨rfl, rfl⟩
      have hRt := Right_is _ [] w2 hr1 hT1 (by simp)
      rw [hrt] at hRt
      go_wp2_with (go_at_call 41; refine hRt.mono ?_; rintro e w3 ⟨rfl, b3⟩)
      go_ret2
      exact ⟨.inr ⟨[], ⟨List.Perm.refl _, List.Pairwise.nil⟩, .inr ⟨hrt, rfl⟩⟩, b1.trans (b3.mono b1.size)⟩
    · have key : ∀ w1 v', Below w.heap.size w w1 → ((v' = .slice none 0 0 ∧ l = []) ∨ (OwnL w1 w.heap.size v' l ∧ v' ≠ .slice none 0 0)) →
          ∃ g cap, v' = .slice (some ⟨g, 0, none⟩) l.length cap ∧ w.heap.size ≤ g ∧ g < w1.heap.size ∧ l.length ≤ cap ∧ HoldsK encL 2 w1 g 0 l.toArray := by
        rintro w1 v' hb (⟨_, h⟩ | ⟨h1, h2⟩)
        · exact absurd h h0
        · exact own_holds h1 h2
      have after : ∀ (w1 : World) (g cap n : Nat) (os : Array Obj) (d : Array Lab), Below w.heap.size w w1 → w.heap.size ≤ g → g < w1.heap.size → l.length ≤ cap → HoldsK encL 2 w1 g 0 l.toArray → Sorts l d.toList → d.size = l.length →
          RdL (sortWorldK encL 2 w1 g 0 n d os) (.slice (some ⟨g, 0, none⟩) l.length cap) d.toList ∧ Below w.heap.size w (sortWorldK encL 2 w1 g 0 n d os) ∧ (∀ x ∈ d.toList, x.1.length ≤ 9223372036854775807 ∧ x.2.length ≤ 9223372036854775807) := by
        intro w1 g cap n os d hb hgw hg hc hH hs hd
        exact ⟨sorted_rd hH hg hd hc, hb.trans (sorted_below hgw hb.size), fun x hx => hsz x (hs.1.subset hx)⟩
      clear hR hsz
      go_enter Tryz.func35, Tryz.ntmps35
      go_wp2_with (go_at_call 77; refine hcl.mono ?_; rintro e w1 ⟨v', rfl, b1, ho⟩; obtain ⟨g, cap, rfl, hgw, hg, hc, hH⟩ := key _ _ b1 ho; clear key hcl ho)
      refine (sortFunc_is hH hg (by omega)).mono ?_
      rintro e w2 ⟨rfl, d, n, os, hs, hd, hw2⟩
      obtain ⟨hr2, bw2, hsz2⟩ := after w1 g cap n os d b1 hgw hg hc hH hs hd
      rw [← hw2] at hr2 bw2
      have hRt := Right_is _ d.toList w2 hr2 (hT.below bw2) hsz2
      clear after hw2 hH
      cases hrd : rightS d.toList with
      | true =>
        rw [hrd] at hRt
        go_wp2_with (go_at_call 41; refine hRt.mono ?_; rintro e w3 ⟨rfl, b3⟩)
        go_ret2
        exact ⟨.inr ⟨d.toList, hs, .inl ⟨hrd, _, rfl, hr2.below b3⟩⟩, bw2.trans (b3.mono bw2.size)⟩
      | false =>
        rw [hrd] at hRt
        go_wp2_with (go_at_call 41; refine hRt.mono ?_; rintro e w3 ⟨rfl, b3⟩)
        go_ret2
        exact ⟨.inr ⟨d.toList, hs, .inr ⟨hrd, rfl⟩⟩, bw2.trans (b3.mono bw2.size)⟩
end Go.Proofs.YtlhodanpfpfodaaGreatDoor
