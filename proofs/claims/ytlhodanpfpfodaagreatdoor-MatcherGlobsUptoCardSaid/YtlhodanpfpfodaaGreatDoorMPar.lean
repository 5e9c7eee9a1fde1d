/-
  What matcher.Parse reads, without a program.
  matcher.Parse. Conditions: those that each theorem names.
-/
import Derived.Test.YtlhodanpfpfodaaGreatDoorWrd
import Derived.Laws.ResultCell
import Derived.Laws.NewBlocks
import Derived.Laws.Rows
namespace Go.Proofs.YtlhodanpfpfodaaGreatDoor
open Go.RowKit Go.Icz
/-- The program's reading of a query's text. -/
def parseQ (l : B8) : Option Qy := match headS l with
  | none => none
  | some (ms, r) => match wordsS r [] with
    | none => none
    | some (r2, h, f, u, m, n) => if trimL r2 = [] ∧ rightQ ⟨ms, h, f, u, m, n⟩ = true then some ⟨ms, h, f, u, m, n⟩ else none
theorem takeWhile_len {p : UInt8 → Bool} : ∀ l : B8, (l.takeWhile p).length ≤ l.length
  | [] => Nat.le_refl _
  | c :: t => by
    rw [List.takeWhile_cons]
    split
    · have := takeWhile_len (p := p) t
      simp only [List.length_cons]
      omega
    · simp
theorem unquoteS_len {l v : B8} {n : Nat} (h : unquoteS l = some (v, n)) : v.length ≤ l.length := by
  rw [unquote_eq] at h
  have := runquote_len h
  omega
theorem matchS_size {s : B8} {m : Mt} {r : B8} (h : matchS s = some (m, r)) : m.name.length ≤ s.length ∧ m.val.length ≤ s.length := by
  unfold matchS at h
  have l1 := trimL_le s
  have l2 := dropWhile_le (p := fun c => !nameEnd c) (trimL s)
  have l0 := takeWhile_len (p := fun c => !nameEnd c) (trimL s)
  have l3 := trimL_le ((trimL s).dropWhile fun c => !nameEnd c)
  split at h
  · cases h
  · split at h
    · cases h
    · rename_i o r2 ho
      have l4 := opS_le ho
      have l5 := trimL_le r2
      split at h
      · cases h
      · rename_i v n hu
        have l6 := unquoteS_len hu
        injection h with h
        injection h with h _
        subst h
        exact ⟨by simp only; omega, by simp only; omega⟩
theorem matchesS_size (N : Nat) : ∀ (f : Nat) (s : B8) (acc ms : List Mt) (r : B8), s.length ≤ N → (∀ m ∈ acc, m.name.length ≤ N ∧ m.val.length ≤ N) → matchesS f s acc = some (ms, r) → (∀ m ∈ ms, m.name.length ≤ N ∧ m.val.length ≤ N) ∧ r.length ≤ N ∧ ms.length ≤ acc.length + f
  | 0, _, _, _, _, _, _, h => by cases h
  | f + 1, s, acc, ms, r, hs, ha, h => by
    cases hm : matchS s with
    | none => rw [mnone f acc hm] at h; cases h
    | some q =>
      obtain ⟨m, r1⟩ := q
      have z := matchS_size hm
      have l1 := matchS_le hm
      have ha2 : ∀ x ∈ acc ++ [m], x.name.length ≤ N ∧ x.val.length ≤ N := fun x hx => by
        rcases List.mem_append.1 hx with h1 | h1
        · exact ha x h1
        · rw [List.mem_singleton] at h1
          subst h1
          omega
      rcases mstep f acc hm with ⟨t, rfl, e⟩ | ⟨t, rfl, e⟩ | ⟨_, _, e⟩
      · rw [e] at h
        injection h with h
        injection h with h1 h2
        subst h1 h2
        rw [List.length_cons] at l1
        exact ⟨ha2, by omega, by simp⟩
      · rw [e] at h
        rw [List.length_cons] at l1
        have ih := matchesS_size N f t (acc ++ [m]) ms r (by omega) ha2 h
        rw [List.length_append] at ih
        exact ⟨ih.1, ih.2.1, by have := ih.2.2; simp at this; omega⟩
      · rw [e] at h
        cases h
theorem headS_size {s : B8} {ms : List Mt} {r : B8} (h : headS s = some (ms, r)) : (∀ m ∈ ms, m.name.length ≤ s.length ∧ m.val.length ≤ s.length) ∧ r.length ≤ s.length ∧ ms.length ≤ 8 := by
  have l1 := trimL_le s
  rcases take_one 123 (trimL s) with ⟨t, e1, _⟩ | ⟨e1, _⟩
  · have l2 := trimL_le t
    rw [e1, List.length_cons] at l1
    rcases take_one 125 (trimL t) with ⟨u, e2, _⟩ | ⟨e2, _⟩
    · rw [headS_empty e1 e2] at h
      injection h with h
      injection h with h1 h2
      subst h1 h2
      rw [e2, List.length_cons] at l2
      exact ⟨by simp, by omega, by simp⟩
    · rw [headS_some e1 e2] at h
      have := matchesS_size s.length 8 (trimL t) [] ms r (by omega) (by simp) h
      exact ⟨this.1, this.2.1, by simpa using this.2.2⟩
  · rw [headS_no e1] at h
    cases h
theorem rest0_has {l h r h2 : B8} {f u m : Int} {n : Bool} (e : rest0 l h = some (r, h2, f, u, m, n)) : h2 = h := by
  unfold rest0 at e
  split at e
  · cases e
  · unfold rest1 at e
    split at e
    · cases e
    · unfold rest2 at e
      split at e
      · cases e
      · unfold rest3 at e
        injection e with e
        simp only [Prod.mk.injEq] at e
        exact e.2.1.symm
theorem wordsS_has {l r h2 : B8} {f u m : Int} {n : Bool} (e : wordsS l [] = some (r, h2, f, u, m, n)) : h2.length ≤ l.length := by
  unfold wordsS at e
  split at e
  · cases e
  · rename_i r1 h1 hs
    have := rest0_has e
    subst this
    unfold hasStep at hs
    split at hs
    · injection hs with hs
      injection hs with _ hs
      subst hs
      simp
    · rename_i r3 hw
      split at hs
      · injection hs with hs
        injection hs with _ hs
        subst hs
        have l1 := wordP_le hw
        have l2 := trimL_le r3
        unfold quotedOut
        cases hu : unquoteS (trimL r3) with
        | none => simp
        | some y =>
          obtain ⟨v, k⟩ := y
          have := unquoteS_len hu
          simp only
          omega
      · cases hs
end Go.Proofs.YtlhodanpfpfodaaGreatDoor
namespace Go.Proofs.YtlhodanpfpfodaaGreatDoor
open Go.RowKit Go.Icz
/-- A query's block, as it is made. -/
def zeroC : Array Value := #[.slice none 0 0, .string ⟨#[]⟩, .int .i64 0, .int .i64 0, .int .i64 0, .bool false]
/-- The three blocks that Parse makes: the answer's, the query's, the text's. -/
def parseW (l : B8) (w : World) : World := ((w.alloc (.cells zeroC 40)).alloc (.cells zeroC 40)).alloc (.cells #[.string ⟨l.toArray⟩] 101)
theorem parseW_size (l : B8) (w : World) : (parseW l w).heap.size = w.heap.size + 3 := by simp [parseW]
theorem parseW_below (l : B8) (w : World) : Below w.heap.size w (parseW l w) := (((Below.refl _ w).alloc (Nat.le_refl _) _).alloc (by simp) _).alloc (by simp; omega) _
theorem parseW_tx (l : B8) (w : World) : TxAt (parseW l w) (w.heap.size + 2) l := by
  have := heap_alloc_new ((w.alloc (.cells zeroC 40)).alloc (.cells zeroC 40)) (.cells #[.string ⟨l.toArray⟩] 101)
  simpa [parseW, TxAt] using this
theorem parseW_q (l : B8) (w : World) : (parseW l w).heap[w.heap.size + 1]? = some (.cells zeroC 40 (0, 0)) := by
  have := heap_alloc_new (w.alloc (.cells zeroC 40)) (.cells zeroC 40)
  refine (heap_alloc_old _ _ (by simp)).trans ?_
  simpa using this
theorem parseW_a (l : B8) (w : World) : (parseW l w).heap[w.heap.size]? = some (.cells zeroC 40 (0, 0)) := by
  have := heap_alloc_new w (.cells zeroC 40)
  exact (heap_alloc_old _ _ (by simp; omega)).trans ((heap_alloc_old _ _ (by simp)).trans this)
theorem zero_facts {w : World} {k : Nat} (h : w.heap[k]? = some (.cells zeroC 40 (0, 0))) :
    w.cell? ⟨k, 0, none⟩ = some (.slice none 0 0) ∧ w.cell? ⟨k, 1, none⟩ = some (.string ⟨#[]⟩) ∧ w.cell? ⟨k, 2, none⟩ = some (.int .i64 0) ∧ w.cell? ⟨k, 3, none⟩ = some (.int .i64 0) ∧ w.cell? ⟨k, 4, none⟩ = some (.int .i64 0) ∧ w.cell? ⟨k, 5, none⟩ = some (.bool false) ∧
    w.frozen? ⟨k, 0, none⟩ = false ∧ w.frozen? ⟨k, 1, none⟩ = false ∧ w.frozen? ⟨k, 2, none⟩ = false ∧ w.frozen? ⟨k, 3, none⟩ = false ∧ w.frozen? ⟨k, 4, none⟩ = false ∧ w.frozen? ⟨k, 5, none⟩ = false :=
  ⟨held_cell h rfl, held_cell h rfl, held_cell h rfl, held_cell h rfl, held_cell h rfl, held_cell h rfl, held_frozen h, held_frozen h, held_frozen h, held_frozen h, held_frozen h, held_frozen h⟩
theorem res_row2 {P : Program} {fn : Func} {p u : Tmp} {ty : TypeId} (h : fn.results = #[.cell p ty, .tmp u]) (tmps : Array Value) (w : World) (g : Nat) (t : TypeId) (cs : Array Value) (fr : Nat × Nat) (d : TypeDesc)
    (hp : tmps.getD p undef = .pointer (some ⟨g, 0, none⟩)) (hg : w.heap[g]? = some (.cells cs t fr))
    (hu : P.underlying ty = some d) (hd : (match d with | .struct _ | .array _ _ => true | _ => false) = true) (hi : (P.info? ty).map (·.size) = some cs.size) :
    (results fn tmps).run P w = .ok (.tuple #[.agg cs, tmps.getD u undef]) w := by
  have hp' : tmps[p]?.getD undef = .pointer (some ⟨g, 0, none⟩) := by simpa using hp
  rw [results_cell_tmp h]
  simp [hp', asAddr, run_loadVar_row w g t ty cs fr d hg hu hd hi, Result.andThen]
/-- Six stores into a query's block. -/
def six (w : World) (b : Nat) (v0 v1 v2 v3 v4 v5 : Value) : World := (((((w.setCell ⟨b, 0, none⟩ v0).setCell ⟨b, 1, none⟩ v1).setCell ⟨b, 2, none⟩ v2).setCell ⟨b, 3, none⟩ v3).setCell ⟨b, 4, none⟩ v4).setCell ⟨b, 5, none⟩ v5
theorem six_eq (w : World) (b : Nat) (v0 v1 v2 v3 v4 v5 : Value) : (((((w.setCell ⟨b, 0, none⟩ v0).setCell ⟨b, 1, none⟩ v1).setCell ⟨b, 2, none⟩ v2).setCell ⟨b, 3, none⟩ v3).setCell ⟨b, 4, none⟩ v4).setCell ⟨b, 5, none⟩ v5 = six w b v0 v1 v2 v3 v4 v5 := rfl
theorem six_row {w : World} {b : Nat} {c0 c1 c2 c3 c4 c5 : Value} {t : TypeId} (h : w.heap[b]? = some (.cells #[c0, c1, c2, c3, c4, c5] t (0, 0))) (v0 v1 v2 v3 v4 v5 : Value) :
    (six w b v0 v1 v2 v3 v4 v5).heap[b]? = some (.cells #[v0, v1, v2, v3, v4, v5] t (0, 0)) := by
  have h0 : (w.setCell ⟨b, 0, none⟩ v0).heap[b]? = some (.cells #[v0, c1, c2, c3, c4, c5] t (0, 0)) := row_set h v0
  have h1 : ((w.setCell ⟨b, 0, none⟩ v0).setCell ⟨b, 1, none⟩ v1).heap[b]? = some (.cells #[v0, v1, c2, c3, c4, c5] t (0, 0)) := row_set h0 v1
  have h2 : (((w.setCell ⟨b, 0, none⟩ v0).setCell ⟨b, 1, none⟩ v1).setCell ⟨b, 2, none⟩ v2).heap[b]? = some (.cells #[v0, v1, v2, c3, c4, c5] t (0, 0)) := row_set h1 v2
  have h3 : ((((w.setCell ⟨b, 0, none⟩ v0).setCell ⟨b, 1, none⟩ v1).setCell ⟨b, 2, none⟩ v2).setCell ⟨b, 3, none⟩ v3).heap[b]? = some (.cells #[v0, v1, v2, v3, c4, c5] t (0, 0)) := row_set h2 v3
  have h4 : (((((w.setCell ⟨b, 0, none⟩ v0).setCell ⟨b, 1, none⟩ v1).setCell ⟨b, 2, none⟩ v2).setCell ⟨b, 3, none⟩ v3).setCell ⟨b, 4, none⟩ v4).heap[b]? = some (.cells #[v0, v1, v2, v3, v4, c5] t (0, 0)) := row_set h3 v4
  exact row_set h4 v5
theorem six_tch (w : World) (b : Nat) (v0 v1 v2 v3 v4 v5 : Value) : Tch (· = b) w (six w b v0 v1 v2 v3 v4 v5) :=
  (((((@Tch.set (· = b) w ⟨b, 0, none⟩ v0 rfl).trans (@Tch.set (· = b) _ ⟨b, 1, none⟩ v1 rfl)).trans (@Tch.set (· = b) _ ⟨b, 2, none⟩ v2 rfl)).trans (@Tch.set (· = b) _ ⟨b, 3, none⟩ v3 rfl)).trans (@Tch.set (· = b) _ ⟨b, 4, none⟩ v4 rfl)).trans (@Tch.set (· = b) _ ⟨b, 5, none⟩ v5 rfl)
theorem six_cells {w : World} {b : Nat} {c0 c1 c2 c3 c4 c5 : Value} {t : TypeId} (h : w.heap[b]? = some (.cells #[c0, c1, c2, c3, c4, c5] t (0, 0))) : w.cell? ⟨b, 0, none⟩ = some c0 ∧ w.cell? ⟨b, 1, none⟩ = some c1 ∧ w.cell? ⟨b, 2, none⟩ = some c2 ∧ w.cell? ⟨b, 3, none⟩ = some c3 ∧ w.cell? ⟨b, 4, none⟩ = some c4 ∧ w.cell? ⟨b, 5, none⟩ = some c5 :=
  ⟨held_cell h rfl, held_cell h rfl, held_cell h rfl, held_cell h rfl, held_cell h rfl, held_cell h rfl⟩
theorem parse_res : Tryz.f23.results = #[.cell 2 40, .tmp 3] := rfl
/-- What matcher.Parse answers. -/
def ParseAns (B : Nat) (l : B8) (e : Ending) (w' : World) : Prop := match parseQ l with
  | none => e = .returned (.tuple #[.agg zeroC, .int .i64 31])
  | some q => ∃ mv, KM.Own w' B mv q.ms ∧ e = .returned (.tuple #[qryV mv q, .int .i64 0])
set_option maxHeartbeats 4000000 in
set_option maxRecDepth 100000 in
theorem MParse_is (l : B8) (w : World) (hl : l.length < 4294967281) (hT : TabsM w) (h9 : 9 ≤ w.heap.size) :
    Calls Tryz.prog 23 #[.string ⟨l.toArray⟩] w fun e w' => ParseAns w.heap.size l e w' ∧ Below w.heap.size w w' := by
  have hs := parseW_size l w
  have hB := parseW_below l w
  have hTw : TabsM (parseW l w) := hT.below hB
  have hM := Tmatches_is (w.heap.size + 2) (w.heap.size + 1) l zeroC 40 (parseW l w) (parseW_tx l w) (parseW_q l w) rfl (by omega) hl hTw (by omega) (by omega) (by omega)
  have ra := parseW_a l w
  cases hh : headS l with
  | none =>
    rw [hh] at hM
    have HP : Hid (parseQ l = none) := hid (by unfold parseQ; rw [hh])
    clear hh
    have fin : ∀ w5, Tch (fun k => k = w.heap.size + 2 ∨ k = w.heap.size + 1) (parseW l w) w5 → w5.heap[w.heap.size]? = some (.cells zeroC 40 (0, 0)) ∧ Below w.heap.size w w5 := fun w5 t5 => ⟨t5.row ra (by omega), Tch.below hB t5 (fun j hj => by omega) (by omega)⟩
    go_enter Tryz.func23, Tryz.ntmps23
    go_wp2_with (first
      | (go_at_call 55; refine hM.mono ?_; rintro e w1 ⟨rfl, t1, ⟨r1, x1⟩, _⟩; have hBl := Tblanks_is _ r1 w1 x1; clear hM)
      | (go_at_call 57; refine hBl.mono ?_; rintro e w2 ⟨rfl, x2, t2⟩; clear hBl; obtain ⟨ra2, b2⟩ := fin w2 (t1.trans (t2.mono fun _ h => .inl h)); obtain ⟨z0, z1, z2, z3, z4, z5, y0, y1, y2, y3, y4, y5⟩ := zero_facts ra2))
    rw [six_eq]
    refine bodyPost_ret_by (res_row2 parse_res _ _ w.heap.size 40 zeroC _ _ rfl (six_row ra2 _ _ _ _ _ _) Tryz.underlying40 rfl (by kernel_rfl)) rfl ⟨?_, ?_⟩
    · show ParseAns w.heap.size l _ _
      unfold ParseAns
      rw [HP.out]
      rfl
    · exact Tch.below b2 (six_tch _ _ _ _ _ _ _ _) (fun j hj => by omega) b2.size
  | some q =>
    obtain ⟨ms, r⟩ := q
    rw [hh] at hM
    have hsz := headS_size hh
    have fin : ∀ w5, Tch (fun k => k = w.heap.size + 2 ∨ k = w.heap.size + 1) (parseW l w) w5 → w5.heap[w.heap.size]? = some (.cells zeroC 40 (0, 0)) ∧ Below w.heap.size w w5 := fun w5 t5 => ⟨t5.row ra (by omega), Tch.below hB t5 (fun j hj => by omega) (by omega)⟩
    obtain ⟨hms, hrl, hm8⟩ := hsz
    cases hw : wordsS r [] with
    | none =>
      have HP : Hid (parseQ l = none) := hid (by unfold parseQ; rw [hh]; simp only; rw [hw])
      clear hh hms
      go_enter Tryz.func23, Tryz.ntmps23
      go_wp2_with (first
        | (go_at_call 55; refine hM.mono ?_; rintro e w1 ⟨rfl, t1, _, hL⟩; obtain ⟨v, L⟩ := hL ms r rfl; obtain ⟨Av, cv, rfl, _⟩ := L.own.rd.form; clear hM hL; have ov := L.own.lt; have st : QSt (w.heap.size + 2) (w.heap.size + 1) (.slice Av ms.length cv) w1 w1 r [] 0 0 0 false := ⟨L.tx, L.row, .refl _ _⟩; have hT1 : TabsM w1 := hTw.touch t1 (fun j hj => by omega) (by omega); have z1 := t1.size; have hW := Twords_is (w.heap.size + 2) (w.heap.size + 1) r [] (.slice Av ms.length cv) 0 0 0 false w1 st (by omega) (by omega) hT1 (by omega) (by omega) (by omega); rw [hw] at hW)
        | (go_at_call 56; refine hW.mono ?_; rintro e w2 ⟨rfl, t2, ⟨rr, x2⟩, hq⟩; clear hW; have hBl := Tblanks_is _ rr w2 x2; clear hq)
        | (go_at_call 57; refine hBl.mono ?_; rintro e w3 ⟨rfl, x3, t3⟩; clear hBl; obtain ⟨ra2, b2⟩ := fin w3 ((t1.trans t2).trans (t3.mono fun _ h => .inl h)); obtain ⟨z0, z1, z2, z3, z4, z5, y0, y1, y2, y3, y4, y5⟩ := zero_facts ra2))
      rw [six_eq]
      refine bodyPost_ret_by (res_row2 parse_res _ _ w.heap.size 40 zeroC _ _ rfl (six_row ra2 _ _ _ _ _ _) Tryz.underlying40 rfl (by kernel_rfl)) rfl ⟨?_, ?_⟩
      · show ParseAns w.heap.size l _ _
        unfold ParseAns
        rw [HP.out]
        rfl
      · exact Tch.below b2 (six_tch _ _ _ _ _ _ _ _) (fun j hj => by omega) b2.size
    | some y =>
      obtain ⟨r2, h, f, u, m, n⟩ := y
      have hhl := wordsS_has hw
      cases hb : trimL r2 with
      | cons c0 tl =>
        have HP : Hid (parseQ l = none) := hid (by unfold parseQ; rw [hh]; simp only; rw [hw]; simp only; rw [hb, if_neg (by simp)])
        clear hh hms
        go_enter Tryz.func23, Tryz.ntmps23
        go_wp2_with (first
          | (go_at_call 55; refine hM.mono ?_; rintro e w1 ⟨rfl, t1, _, hL⟩; obtain ⟨v, L⟩ := hL ms r rfl; obtain ⟨Av, cv, rfl, _⟩ := L.own.rd.form; clear hM hL; have ov := L.own.lt; have st : QSt (w.heap.size + 2) (w.heap.size + 1) (.slice Av ms.length cv) w1 w1 r [] 0 0 0 false := ⟨L.tx, L.row, .refl _ _⟩; have hT1 : TabsM w1 := hTw.touch t1 (fun j hj => by omega) (by omega); have z1 := t1.size; have hW := Twords_is (w.heap.size + 2) (w.heap.size + 1) r [] (.slice Av ms.length cv) 0 0 0 false w1 st (by omega) (by omega) hT1 (by omega) (by omega) (by omega); rw [hw] at hW)
          | (go_at_call 56; refine hW.mono ?_; rintro e w2 ⟨rfl, t2, ⟨rr, x2⟩, hq⟩; clear hW; have s2 := hq _ _ _ _ _ _ rfl; clear hq; have hBl := s2.blanks (by omega); rw [hb] at hBl)
          | (go_at_call 57; refine hBl.mono ?_; rintro e w3 ⟨rfl, s3⟩; clear hBl; obtain ⟨ra2, b2⟩ := fin w3 (t1.trans s3.tch); have xc := s3.tx.cell; obtain ⟨z0, z1, z2, z3, z4, z5, y0, y1, y2, y3, y4, y5⟩ := zero_facts ra2))
        rw [six_eq]
        refine bodyPost_ret_by (res_row2 parse_res _ _ w.heap.size 40 zeroC _ _ rfl (six_row ra2 _ _ _ _ _ _) Tryz.underlying40 rfl (by kernel_rfl)) rfl ⟨?_, ?_⟩
        · show ParseAns w.heap.size l _ _
          unfold ParseAns
          rw [HP.out]
          rfl
        · exact Tch.below b2 (six_tch _ _ _ _ _ _ _ _) (fun j hj => by omega) b2.size
      | nil =>
        have hRQ : Hid (parseQ l = if rightQ ⟨ms, h, f, u, m, n⟩ = true then some ⟨ms, h, f, u, m, n⟩ else none) := hid (by unfold parseQ; rw [hh]; simp only; rw [hw]; simp only; rw [hb]; simp)
        have hRt := fun (v : Value) w4 (hR : KM.Rd w4 v ms) (hT4 : Tabs w4) => MRight_is v ⟨ms, h, f, u, m, n⟩ w4 hR (by show ms.length ≤ _; omega) (fun x hx => by have := hms x hx; omega) (by show h.length ≤ _; omega) hT4
        unfold qryV at hRt
        cases hr : rightQ ⟨ms, h, f, u, m, n⟩ with
        | false =>
          have HP : Hid (parseQ l = none) := hid (by rw [hRQ.out, hr]; rfl)
          rw [hr] at hRt
          clear hh hms hRQ hr
          go_enter Tryz.func23, Tryz.ntmps23
          go_wp2_with (first
            | (go_at_call 55; refine hM.mono ?_; rintro e w1 ⟨rfl, t1, _, hL⟩; obtain ⟨v, L⟩ := hL ms r rfl; obtain ⟨Av, cv, rfl, _⟩ := L.own.rd.form; clear hM hL; have ov := L.own.lt; have st : QSt (w.heap.size + 2) (w.heap.size + 1) (.slice Av ms.length cv) w1 w1 r [] 0 0 0 false := ⟨L.tx, L.row, .refl _ _⟩; have hT1 : TabsM w1 := hTw.touch t1 (fun j hj => by omega) (by omega); have z1 := t1.size; have hW := Twords_is (w.heap.size + 2) (w.heap.size + 1) r [] (.slice Av ms.length cv) 0 0 0 false w1 st (by omega) (by omega) hT1 (by omega) (by omega) (by omega); rw [hw] at hW)
            | (go_at_call 56; refine hW.mono ?_; rintro e w2 ⟨rfl, t2, ⟨rr, x2⟩, hq⟩; clear hW; have s2 := hq _ _ _ _ _ _ rfl; clear hq; have hBl := s2.blanks (by omega); rw [hb] at hBl)
            | (go_at_call 57; refine hBl.mono ?_; rintro e w3 ⟨rfl, s3⟩; clear hBl; have t23 := s3.tch; obtain ⟨ra2, b2⟩ := fin w3 (t1.trans t23); have xc := s3.tx.cell; have own3 := L.own.touch t23 (fun j hj e => by have := ov j e; omega); have hTd3 : TabsM w3 := hTw.touch (t1.trans t23) (fun j hj => by omega) (by omega); obtain ⟨z0, z1, z2, z3, z4, z5, y0, y1, y2, y3, y4, y5⟩ := zero_facts ra2; obtain ⟨d0, d1, d2, d3, d4, d5⟩ := six_cells s3.row)
            | (go_at_call 25; (refine (hRt _ _ own3.rd hTd3.tabs).mono ?_; rintro e w4 ⟨rfl, b4⟩; clear hRt; have ra3 := (b4.block _ (Array.getElem?_eq_some_iff.1 ra2).1).trans ra2; have row4 := (b4.block _ (Array.getElem?_eq_some_iff.1 s3.row).1).trans s3.row; have own4 := own3.below b4; have b3 := b2.trans (b4.mono b2.size); clear z0 z1 z2 z3 z4 z5 y0 y1 y2 y3 y4 y5 d0 d1 d2 d3 d4 d5; obtain ⟨z0, z1, z2, z3, z4, z5, y0, y1, y2, y3, y4, y5⟩ := zero_facts ra3; obtain ⟨d0, d1, d2, d3, d4, d5⟩ := six_cells row4)))
          rw [six_eq]
          refine bodyPost_ret_by (res_row2 parse_res _ _ w.heap.size 40 zeroC _ _ rfl (six_row ra3 _ _ _ _ _ _) Tryz.underlying40 rfl (by kernel_rfl)) rfl ⟨?_, ?_⟩
          · show ParseAns w.heap.size l _ _
            unfold ParseAns
            rw [HP.out]
            rfl
          · exact Tch.below b3 (six_tch _ _ _ _ _ _ _ _) (fun j hj => by omega) b3.size
        | true =>
          have HP : Hid (parseQ l = some ⟨ms, h, f, u, m, n⟩) := hid (by rw [hRQ.out, hr]; rfl)
          rw [hr] at hRt
          clear hh hms hRQ hr
          go_enter Tryz.func23, Tryz.ntmps23
          go_wp2_with (first
            | (go_at_call 55; refine hM.mono ?_; rintro e w1 ⟨rfl, t1, _, hL⟩; obtain ⟨v, L⟩ := hL ms r rfl; obtain ⟨Av, cv, rfl, _⟩ := L.own.rd.form; clear hM hL; have ov := L.own.lt; have st : QSt (w.heap.size + 2) (w.heap.size + 1) (.slice Av ms.length cv) w1 w1 r [] 0 0 0 false := ⟨L.tx, L.row, .refl _ _⟩; have hT1 : TabsM w1 := hTw.touch t1 (fun j hj => by omega) (by omega); have z1 := t1.size; have hW := Twords_is (w.heap.size + 2) (w.heap.size + 1) r [] (.slice Av ms.length cv) 0 0 0 false w1 st (by omega) (by omega) hT1 (by omega) (by omega) (by omega); rw [hw] at hW)
            | (go_at_call 56; refine hW.mono ?_; rintro e w2 ⟨rfl, t2, ⟨rr, x2⟩, hq⟩; clear hW; have s2 := hq _ _ _ _ _ _ rfl; clear hq; have hBl := s2.blanks (by omega); rw [hb] at hBl)
            | (go_at_call 57; refine hBl.mono ?_; rintro e w3 ⟨rfl, s3⟩; clear hBl; have t23 := s3.tch; obtain ⟨ra2, b2⟩ := fin w3 (t1.trans t23); have xc := s3.tx.cell; have own3 := L.own.touch t23 (fun j hj e => by have := ov j e; omega); have hTd3 : TabsM w3 := hTw.touch (t1.trans t23) (fun j hj => by omega) (by omega); obtain ⟨z0, z1, z2, z3, z4, z5, y0, y1, y2, y3, y4, y5⟩ := zero_facts ra2; obtain ⟨d0, d1, d2, d3, d4, d5⟩ := six_cells s3.row)
            | (go_at_call 25; (refine (hRt _ _ own3.rd hTd3.tabs).mono ?_; rintro e w4 ⟨rfl, b4⟩; clear hRt; have ra3 := (b4.block _ (Array.getElem?_eq_some_iff.1 ra2).1).trans ra2; have row4 := (b4.block _ (Array.getElem?_eq_some_iff.1 s3.row).1).trans s3.row; have own4 := own3.below b4; have b3 := b2.trans (b4.mono b2.size); clear z0 z1 z2 z3 z4 z5 y0 y1 y2 y3 y4 y5 d0 d1 d2 d3 d4 d5; obtain ⟨z0, z1, z2, z3, z4, z5, y0, y1, y2, y3, y4, y5⟩ := zero_facts ra3; obtain ⟨d0, d1, d2, d3, d4, d5⟩ := six_cells row4)))
          rw [six_eq]
          have r6 := six_row ra3 (.slice Av ms.length cv) (.string ⟨h.toArray⟩) (.int .i64 f) (.int .i64 u) (.int .i64 m) (.bool n)
          have k6 := six_tch w4 w.heap.size (.slice Av ms.length cv) (.string ⟨h.toArray⟩) (.int .i64 f) (.int .i64 u) (.int .i64 m) (.bool n)
          refine bodyPost_ret_by (res_row2 parse_res _ _ w.heap.size 40 _ _ _ rfl r6 Tryz.underlying40 rfl (by kernel_rfl)) rfl ⟨?_, ?_⟩
          · show ParseAns w.heap.size l _ _
            unfold ParseAns
            rw [HP.out]
            exact ⟨.slice Av ms.length cv, (own4.touch k6 (fun j hj e => by have := ov j e; omega)).mono (by omega), rfl⟩
          · exact Tch.below b3 k6 (fun j hj => by omega) b3.size
end Go.Proofs.YtlhodanpfpfodaaGreatDoor
