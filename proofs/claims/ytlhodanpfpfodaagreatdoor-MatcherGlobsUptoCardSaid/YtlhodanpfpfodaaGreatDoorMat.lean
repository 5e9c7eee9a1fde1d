/-
  The text that matcher's Parse reads: a match. Conditions: those that each theorem names.
  The text that matcher's Parse reads: the matches. Conditions: those that each theorem names.
  The text that matcher's Parse reads: the matches, all of them. Conditions: those that each theorem names.
-/
import Derived.Test.YtlhodanpfpfodaaGreatDoorNam
import Derived.Test.YtlhodanpfpfodaaGreatDoorNum
import Derived.Test.YtlhodanpfpfodaaGreatDoorTxt2
import Derived.Test.YtlhodanpfpfodaaGreatDoorGRow2
namespace Go.Icz
open Go.RowKit
theorem opS_le {l : B8} {o : Nat} {r : B8} (h : opS l = some (o, r)) : r.length ≤ l.length := by
  unfold opS at h
  split at h
  all_goals first
    | (cases h; done)
    | (injection h with h; injection h with _ h; subst h; simp only [List.length_cons]; omega)
theorem dropWhile_le {p : UInt8 → Bool} : ∀ l : B8, (l.dropWhile p).length ≤ l.length
  | [] => Nat.le_refl _
  | c :: t => by
    rw [List.dropWhile_cons]
    split
    · have := dropWhile_le (p := p) t
      simp only [List.length_cons]
      omega
    · exact Nat.le_refl _
end Go.Icz
namespace Go.Proofs.YtlhodanpfpfodaaGreatDoor
open Go.RowKit Go.Icz
/-- The program's match, from the blanks ahead of it to those behind it. -/
def matchS (s0 : B8) : Option (Mt × B8) :=
  if (trimL s0).dropWhile (fun c => !nameEnd c) = [] then none else
  match opS (trimL ((trimL s0).dropWhile fun c => !nameEnd c)) with
  | none => none
  | some (o, r2) => match unquoteS (trimL r2) with
    | none => none
    | some (v, n) => some (⟨(trimL s0).takeWhile (fun c => !nameEnd c), o, v⟩, trimL ((trimL r2).drop n))
/-- The text and the match that is being read, since w0. -/
structure MSt (g b : Nat) (w0 w : World) (l : B8) (n : ByteArray) (v : Int) (s : ByteArray) : Prop where
  tx : TxAt w g l
  row : w.heap[b]? = some (.cells #[.string n, .int .i64 v, .string s] 57 (0, 0))
  tch : Tch (fun k => k = g ∨ k = b) w0 w
section
variable {g b : Nat} {w0 w : World} {l : B8} {n : ByteArray} {v : Int} {s : ByteArray}
theorem MSt.tabs (h : MSt g b w0 w l n v s) (hT : TabsM w0) (h9 : 9 ≤ g) (hb9 : 9 ≤ b) (h0 : 9 ≤ w0.heap.size) : TabsM w :=
  hT.touch h.tch (fun j hj => by rcases hj with rfl | rfl <;> assumption) h0
theorem MSt.blanks (h : MSt g b w0 w l n v s) (hne : b ≠ g) : Calls Tryz.prog 57 #[.pointer (some ⟨g, 0, none⟩)] w fun e w' => e = .returned (.bool (blankS l)) ∧ MSt g b w0 w' (trimL l) n v s :=
  (Tblanks_is g l w h.tx).mono fun _ _ ⟨h1, h2, h3⟩ => ⟨h1, h2, h3.row h.row (by omega), h.tch.trans (h3.mono fun _ hk => .inl hk)⟩
theorem MSt.name (h : MSt g b w0 w l n v s) (hne : b ≠ g) (hl : l.length < 4294967281) (hn : l.dropWhile (fun c => !nameEnd c) ≠ []) : Calls Tryz.prog 120 #[.pointer (some ⟨g, 0, none⟩), .pointer (some ⟨b, 0, none⟩)] w fun e w' => e = .returned (.bool true) ∧ MSt g b w0 w' (l.dropWhile fun c => !nameEnd c) ⟨(l.takeWhile fun c => !nameEnd c).toArray⟩ v s :=
  (Tname_yes g b 0 l _ _ n w h.tx h.row rfl hne hl hn).mono fun _ _ ⟨h1, h2, h3, h4⟩ => ⟨h1, h2, h3, h.tch.trans h4⟩
theorem MSt.op (h : MSt g b w0 w l n v s) (hne : b ≠ g) (hT : TabsM w0) (h9 : 9 ≤ g) (hb9 : 9 ≤ b) (h0 : 9 ≤ w0.heap.size) : Calls Tryz.prog 121 #[.pointer (some ⟨g, 0, none⟩), .pointer (some ⟨b, 1, none⟩)] w fun e w' => e = .returned (.bool (opOut (opS l) l v).1) ∧ MSt g b w0 w' (opOut (opS l) l v).2.1 n (opOut (opS l) l v).2.2 s :=
  (Top_is g b 1 l _ _ v w h.tx h.row rfl hne (h.tabs hT h9 hb9 h0).sig (by omega)).mono fun _ _ ⟨h1, h2, h3, h4⟩ => ⟨h1, h2, h3, h.tch.trans h4⟩
theorem MSt.quoted (h : MSt g b w0 w l n v s) (hne : b ≠ g) (hl : l.length ≤ 1099511627776) (hT : TabsM w0) (h9 : 9 ≤ g) (hb9 : 9 ≤ b) (h0 : 9 ≤ w0.heap.size) : Calls Tryz.prog 94 #[.pointer (some ⟨g, 0, none⟩), .pointer (some ⟨b, 2, none⟩)] w fun e w' => e = .returned (.bool (quotedOut l).2.2) ∧ MSt g b w0 w' (quotedOut l).2.1 n v ⟨(quotedOut l).1.toArray⟩ :=
  (Tquoted_is g b 2 l _ _ s w h.tx h.row rfl hne hl (h.tabs hT h9 hb9 h0).tabs).mono fun _ _ ⟨h1, h2, h3, h4⟩ => ⟨h1, h2, h3, h.tch.trans h4⟩
end
set_option maxHeartbeats 2000000 in
set_option maxRecDepth 100000 in
theorem Tmatch_is (g b : Nat) (l : B8) (n : ByteArray) (v : Int) (s : ByteArray) (w : World) (h : TxAt w g l) (hr : w.heap[b]? = some (.cells #[.string n, .int .i64 v, .string s] 57 (0, 0))) (hne : b ≠ g) (hl : l.length < 4294967281) (hT : TabsM w) (h9 : 9 ≤ g) (hb9 : 9 ≤ b) (h0 : 9 ≤ w.heap.size) :
    Calls Tryz.prog 92 #[.pointer (some ⟨g, 0, none⟩), .pointer (some ⟨b, 0, none⟩)] w fun e w' => e = .returned (.bool (matchS l).isSome) ∧ Tch (fun k => k = g ∨ k = b) w w' ∧ (∃ r, TxAt w' g r) ∧ ∀ m r, matchS l = some (m, r) → MSt g b w w' r ⟨m.name.toArray⟩ m.op ⟨m.val.toArray⟩ := by
  have st : MSt g b w w l n v s := ⟨h, hr, .refl _ _⟩
  clear h hr
  have l1 := trimL_le l
  have hB1 := st.blanks hne
  clear st
  unfold matchS
  generalize trimL l = x at *
  by_cases hx : x.dropWhile (fun c => !nameEnd c) = []
  · rw [if_pos hx]
    have hN := fun (p : Value) w1 (h1 : TxAt w1 g x) => Tname_no g p x w1 h1 (by omega) hx
    clear hx l1 hl hT
    go_enter Tryz.func92, Tryz.ntmps92
    go_wp2_with (first
      | (go_at_call 57; refine hB1.mono ?_; rintro e w1 ⟨rfl, s1⟩; clear hB1)
      | (go_at_call 120; refine (hN _ _ s1.tx).mono ?_; rintro e w2 ⟨rfl, b2⟩; clear hN))
    go_ret
    exact ⟨rfl, s1.tch.trans (.of_below b2), ⟨_, (b2.block g s1.tx.lt).trans s1.tx⟩, fun _ _ h => by cases h⟩
  · rw [if_neg hx]
    have hN := fun w1 (h1 : MSt g b w w1 x n v s) => h1.name hne (by omega) hx
    have l2 := dropWhile_le (p := fun c => !nameEnd c) x
    clear hx
    generalize x.dropWhile (fun c => !nameEnd c) = y at *
    generalize x.takeWhile (fun c => !nameEnd c) = nm at *
    have hB2 := fun w1 (h1 : MSt g b w w1 y ⟨nm.toArray⟩ v s) => h1.blanks hne
    have l3 := trimL_le y
    generalize trimL y = z at *
    have hO := fun w1 (h1 : MSt g b w w1 z ⟨nm.toArray⟩ v s) => h1.op hne hT h9 hb9 h0
    cases ho : opS z with
    | none =>
      rw [ho] at hO
      simp only [opOut] at hO
      clear ho hT l1 l2 l3 hl
      go_enter Tryz.func92, Tryz.ntmps92
      go_wp2_with (first
        | (go_at_call 57; refine hB1.mono ?_; rintro e w1 ⟨rfl, s1⟩; clear hB1)
        | (go_at_call 120; refine (hN _ s1).mono ?_; rintro e w2 ⟨rfl, s2⟩; clear hN)
        | (go_at_call 57; refine (hB2 _ s2).mono ?_; rintro e w3 ⟨rfl, s3⟩; clear hB2)
        | (go_at_call 121; refine (hO _ s3).mono ?_; rintro e w4 ⟨rfl, s4⟩; clear hO))
      go_ret
      exact ⟨rfl, s4.tch, ⟨_, s4.tx⟩, fun _ _ h => by cases h⟩
    | some q =>
      obtain ⟨o, r2⟩ := q
      have l4 := opS_le ho
      rw [ho] at hO
      simp only [opOut] at hO
      clear ho
      have hB3 := fun w1 (h1 : MSt g b w w1 r2 ⟨nm.toArray⟩ o s) => h1.blanks hne
      have l5 := trimL_le r2
      simp only []
      generalize trimL r2 = u at *
      have hQ := fun w1 (h1 : MSt g b w w1 u ⟨nm.toArray⟩ o s) => h1.quoted hne (by omega) hT h9 hb9 h0
      have fin : (quotedOut u).2.2 = (match unquoteS u with | none => (none : Option (Mt × B8)) | some (v, n) => some (⟨nm, o, v⟩, trimL (u.drop n))).isSome ∧ ∀ m r, (match unquoteS u with | none => (none : Option (Mt × B8)) | some (v, n) => some (⟨nm, o, v⟩, trimL (u.drop n))) = some (m, r) → m = ⟨nm, o, (quotedOut u).1⟩ ∧ r = trimL (quotedOut u).2.1 := by
        unfold quotedOut
        cases unquoteS u with
        | none => exact ⟨rfl, fun _ _ h => by cases h⟩
        | some q =>
          obtain ⟨v2, n2⟩ := q
          refine ⟨rfl, fun m r h => ?_⟩
          injection h with h
          injection h with h1 h2
          exact ⟨h1.symm, h2.symm⟩
      generalize (match unquoteS u with | none => (none : Option (Mt × B8)) | some (v, n) => some (⟨nm, o, v⟩, trimL (u.drop n))) = res at *
      obtain ⟨f1, f2⟩ := fin
      generalize (quotedOut u).1 = qv at *
      generalize (quotedOut u).2.1 = qr at *
      generalize (quotedOut u).2.2 = qb at *
      have hB4 := fun w1 (h1 : MSt g b w w1 qr ⟨nm.toArray⟩ o ⟨qv.toArray⟩) => h1.blanks hne
      clear hT l1 l2 l3 l4 l5 hl
      go_enter Tryz.func92, Tryz.ntmps92
      go_wp2_with (first
        | (go_at_call 57; refine hB1.mono ?_; rintro e w1 ⟨rfl, s1⟩; clear hB1)
        | (go_at_call 120; refine (hN _ s1).mono ?_; rintro e w2 ⟨rfl, s2⟩; clear hN)
        | (go_at_call 57; refine (hB2 _ s2).mono ?_; rintro e w3 ⟨rfl, s3⟩; clear hB2)
        | (go_at_call 121; refine (hO _ s3).mono ?_; rintro e w4 ⟨rfl, s4⟩; clear hO)
        | (go_at_call 57; refine (hB3 _ s4).mono ?_; rintro e w5 ⟨rfl, s5⟩; clear hB3)
        | (go_at_call 94; refine (hQ _ s5).mono ?_; rintro e w6 ⟨rfl, s6⟩; clear hQ)
        | (go_at_call 57; refine (hB4 _ s6).mono ?_; rintro e w7 ⟨rfl, s7⟩; clear hB4))
      go_ret
      refine ⟨rfl, s7.tch, ⟨_, s7.tx⟩, fun m r h => ?_⟩
      obtain ⟨rfl, rfl⟩ := f2 m r h
      exact s7
end Go.Proofs.YtlhodanpfpfodaaGreatDoor
namespace Go.Proofs.YtlhodanpfpfodaaGreatDoor
open Go.RowKit Go.Icz
/-- The program's matches, from the one that stands there on. -/
def matchesS : Nat → B8 → List Mt → Option (List Mt × B8)
  | 0, _, _ => none
  | f + 1, s, acc => match matchS s with
    | none => none
    | some (m, r) => match r with
      | 125 :: t => some (acc ++ [m], t)
      | 44 :: t => matchesS f t (acc ++ [m])
      | _ => none
def headS (s : B8) : Option (List Mt × B8) :=
  match trimL s with
  | 123 :: t => match trimL t with
    | 125 :: u => some ([], u)
    | v => matchesS 8 v []
  | _ => none
theorem matchS_le {s : B8} {m : Mt} {r : B8} (h : matchS s = some (m, r)) : r.length ≤ s.length := by
  unfold matchS at h
  have l1 := trimL_le s
  have l2 := dropWhile_le (p := fun c => !nameEnd c) (trimL s)
  have l3 := trimL_le ((trimL s).dropWhile fun c => !nameEnd c)
  split at h
  · cases h
  · split at h
    · cases h
    · rename_i o r2 ho
      have l4 := opS_le ho
      have l5 := trimL_le r2
      split at h
      · cases h
      · rename_i v n hu
        injection h with h
        injection h with _ h
        subst h
        have l6 := trimL_le ((trimL r2).drop n)
        have l7 : ((trimL r2).drop n).length ≤ (trimL r2).length := by rw [List.length_drop]; omega
        omega
/-- One letter, taken or not. -/
theorem take_one (c : UInt8) (l : B8) : (∃ t, l = c :: t ∧ Lib.hasPrefix l [c] = true ∧ Lib.trimPrefix l [c] = t) ∨ ((∀ t, l ≠ c :: t) ∧ Lib.hasPrefix l [c] = false ∧ Lib.trimPrefix l [c] = l) := by
  cases hp : Lib.hasPrefix l [c]
  · refine .inr ⟨fun t e => ?_, rfl, take_no hp⟩
    rw [(take_yes (p := [c]) (t := t) (by rw [e]; rfl)).1] at hp
    cases hp
  · obtain ⟨t, e⟩ := (hasPrefix_iff _ _).1 hp
    exact .inl ⟨t, e, rfl, (take_yes e).2⟩
theorem infoMt : (Tryz.prog.info? KM.e).map (fun i => (i.zero, i.size, i.bytes)) = some (some (.agg #[.string ⟨#[]⟩, .int .i64 0, .string ⟨#[]⟩]), KM.z, 40) := by kernel_rfl
theorem Tch.out {S T : Nat → Prop} {w0 w w' : World} (h : Tch S w0 w) (k : Tch T w w') (hT : ∀ j, T j → S j ∨ w0.heap.size ≤ j) : Tch S w0 w' :=
  ⟨k.os.trans h.os, k.tape.trans h.tape, k.output.trans h.output, Nat.le_trans h.size k.size, fun j hj hn => (k.block j (Nat.lt_of_lt_of_le hj h.size) (fun ht => by rcases hT j ht with h1 | h1; exact hn h1; omega)).trans (h.block j hj hn)⟩
/-- The text and the matches that were read, since w0. -/
structure LSt (g b : Nat) (cs : Array Value) (t : TypeId) (w0 w : World) (l : B8) (acc : List Mt) (v : Value) : Prop where
  tx : TxAt w g l
  own : KM.Own w w0.heap.size v acc
  row : w.heap[b]? = some (.cells (cs.setIfInBounds 0 v) t (0, 0))
  tch : Tch (fun k => k = g ∨ k = b) w0 w
section
variable {g b : Nat} {cs : Array Value} {t : TypeId} {w0 w : World} {l : B8} {acc : List Mt} {v : Value}
theorem LSt.text {w' : World} {m : B8} (h : LSt g b cs t w0 w l acc v) (hg : g < w0.heap.size) (hne : b ≠ g) (x : TxAt w' g m) (k : Tch (· = g) w w') : LSt g b cs t w0 w' m acc v :=
  ⟨x, h.own.touch k (fun j hj ho => by have := (h.own.lt j ho).1; omega), k.row h.row (by omega), h.tch.trans (k.mono fun _ hk => .inl hk)⟩
theorem LSt.take (h : LSt g b cs t w0 w l acc v) (hg : g < w0.heap.size) (hne : b ≠ g) (p : B8) : Calls Tryz.prog 91 #[.pointer (some ⟨g, 0, none⟩), .string ⟨p.toArray⟩] w fun e w' => e = .returned (.bool (Lib.hasPrefix l p)) ∧ LSt g b cs t w0 w' (Lib.trimPrefix l p) acc v :=
  (Ttake_is g l p w h.tx).mono fun _ _ ⟨h1, h2, h3⟩ => ⟨h1, h.text hg hne h2 h3⟩
theorem LSt.blanks (h : LSt g b cs t w0 w l acc v) (hg : g < w0.heap.size) (hne : b ≠ g) : Calls Tryz.prog 57 #[.pointer (some ⟨g, 0, none⟩)] w fun e w' => e = .returned (.bool (blankS l)) ∧ LSt g b cs t w0 w' (trimL l) acc v :=
  (Tblanks_is g l w h.tx).mono fun _ _ ⟨h1, h2, h3⟩ => ⟨h1, h.text hg hne h2 h3⟩
/-- A match is read into a block of its own. -/
theorem LSt.match (h : LSt g b cs t w0 w l acc v) (hg : g < w0.heap.size) (hb : b < w0.heap.size) (hne : b ≠ g) (hl : l.length < 4294967281) (hT : TabsM w0) (h9 : 9 ≤ g) (hb9 : 9 ≤ b) (h0 : 9 ≤ w0.heap.size) :
    Calls Tryz.prog 92 #[.pointer (some ⟨g, 0, none⟩), .pointer (some ⟨w.heap.size, 0, none⟩)] (w.alloc (.cells #[.string ⟨#[]⟩, .int .i64 0, .string ⟨#[]⟩] 57)) fun e w' => e = .returned (.bool (matchS l).isSome) ∧ Tch (fun k => k = g ∨ k = b) w0 w' ∧ (∃ r, TxAt w' g r) ∧ ∀ m r, matchS l = some (m, r) → LSt g b cs t w0 w' r acc v ∧ w.heap.size < w'.heap.size ∧ w'.heap[w.heap.size]? = some (.cells #[.string ⟨m.name.toArray⟩, .int .i64 m.op, .string ⟨m.val.toArray⟩] 57 (0, 0)) := by
  have hgw : g < w.heap.size := h.tx.lt
  have hT1 : TabsM w := hT.touch h.tch (fun j hj => by rcases hj with rfl | rfl <;> assumption) h0
  have hT2 : TabsM (w.alloc (.cells #[.string ⟨#[]⟩, .int .i64 0, .string ⟨#[]⟩] 57)) := hT1.below ((Below.refl _ w).alloc (Nat.le_refl _) _)
  have hsz := h.tch.size
  have ta := h.tch.trans (Tch.alloc _ w (.cells #[.string ⟨#[]⟩, .int .i64 0, .string ⟨#[]⟩] 57))
  have oa := h.own.alloc (.cells #[.string ⟨#[]⟩, .int .i64 0, .string ⟨#[]⟩] 57)
  have ra := (heap_alloc_old w (.cells #[.string ⟨#[]⟩, .int .i64 0, .string ⟨#[]⟩] 57) (show b < w.heap.size by omega)).trans h.row
  refine (Tmatch_is g w.heap.size l ⟨#[]⟩ 0 ⟨#[]⟩ _ (h.tx.alloc _) (heap_alloc_new w _) (by omega) hl hT2 h9 (by omega) (by simp; omega)).mono ?_
  rintro e w1 ⟨rfl, k1, x1, k2⟩
  have kk := Tch.out ta k1 (fun j hj => by rcases hj with rfl | rfl; exact .inl (.inl rfl); exact .inr hsz)
  refine ⟨rfl, kk, x1, fun m r hm => ?_⟩
  have s1 := k2 m r hm
  refine ⟨⟨s1.tx, oa.touch k1 (fun j hj ho => ?_), k1.row ra (by omega), kk⟩, ?_, s1.row⟩
  · have h1 := h.own.lt j ho
    rcases hj with rfl | rfl <;> omega
  · exact (Array.getElem?_eq_some_iff.1 s1.row).1
end
end Go.Proofs.YtlhodanpfpfodaaGreatDoor
namespace Go.Proofs.YtlhodanpfpfodaaGreatDoor
open Go.RowKit Go.Icz
theorem headS_no {s : B8} (h : ∀ t, trimL s ≠ 123 :: t) : headS s = none := by
  unfold headS
  split
  · rename_i e; exact absurd e (h _)
  · rfl
theorem headS_empty {s t u : B8} (h : trimL s = 123 :: t) (h2 : trimL t = 125 :: u) : headS s = some ([], u) := by
  unfold headS
  simp only [h, h2]
theorem headS_some {s t : B8} (h : trimL s = 123 :: t) (h2 : ∀ u, trimL t ≠ 125 :: u) : headS s = matchesS 8 (trimL t) [] := by
  unfold headS
  rw [h]
  simp only []
theorem take_cons (c : UInt8) (t : B8) : Lib.hasPrefix (c :: t) [c] = true ∧ Lib.trimPrefix (c :: t) [c] = t := take_yes (p := [c]) rfl
theorem tch_below2 {S : Nat → Prop} {w0 w w' : World} (h : Tch S w0 w) (k : Below w0.heap.size w w') : Tch S w0 w' :=
  ⟨k.os.trans h.os, k.tape.trans h.tape, k.output.trans h.output, Nat.le_trans h.size k.size, fun j hj hn => (k.block j hj).trans (h.block j hj hn)⟩
/-- The row of matches is one longer. -/
theorem LSt.put {g b : Nat} {cs : Array Value} {t : TypeId} {w0 w w' : World} {l : B8} {acc : List Mt} {v : Value} (h : LSt g b cs t w0 w l acc v) (hg : g < w0.heap.size) (hb : b < w0.heap.size) (hne : b ≠ g) {o : Obj} {m : Mt} {v' : Value} (b6 : Below w0.heap.size (w.drew.alloc o) w') (o6 : KM.Own w' w0.heap.size v' (acc ++ [m])) :
    LSt g b cs t w0 (w'.setCell ⟨b, 0, none⟩ v') l (acc ++ [m]) v' := by
  have hz := h.tch.size
  have t6 : Tch (fun k => k = g ∨ k = b) w0 w' := tch_below2 ((h.tch.trans (Tch.drew _ _)).trans (Tch.alloc _ _ o)) b6
  have x6 : TxAt w' g l := (b6.block g hg).trans ((heap_alloc_old w.drew o (Nat.lt_of_lt_of_le hg hz)).trans h.tx)
  have r6 := (b6.block b hb).trans ((heap_alloc_old w.drew o (Nat.lt_of_lt_of_le hb hz)).trans h.row)
  have k7 := Tch.set (· = b) w' ⟨b, 0, none⟩ v' rfl
  refine ⟨x6.touch k7 (by omega), o6.touch k7 (fun j hj ho => by have := (o6.lt j ho).1; omega), ?_, t6.trans (k7.mono fun _ hk => .inr hk)⟩
  have := row_set (i := 0) r6 v'
  simpa using this
theorem mstep {s : B8} {m : Mt} {r : B8} (f : Nat) (acc : List Mt) (h : matchS s = some (m, r)) :
    (∃ t, r = 125 :: t ∧ matchesS (f + 1) s acc = some (acc ++ [m], t)) ∨ (∃ t, r = 44 :: t ∧ matchesS (f + 1) s acc = matchesS f t (acc ++ [m])) ∨ ((∀ t, r ≠ 125 :: t) ∧ (∀ t, r ≠ 44 :: t) ∧ matchesS (f + 1) s acc = none) := by
  rw [matchesS, h]
  simp only []
  split
  · exact .inl ⟨_, rfl, rfl⟩
  · exact .inr (.inl ⟨_, rfl, rfl⟩)
  · rename_i h1 h2
    exact .inr (.inr ⟨fun t e => h1 t e, fun t e => h2 t e, rfl⟩)
theorem mnone {s : B8} (f : Nat) (acc : List Mt) (h : matchS s = none) : matchesS (f + 1) s acc = none := by
  rw [matchesS, h]
set_option maxHeartbeats 4000000 in
set_option maxRecDepth 100000 in
theorem Tmatches_is (g b : Nat) (l : B8) (cs : Array Value) (t : TypeId) (w : World) (h : TxAt w g l) (hr : w.heap[b]? = some (.cells cs t (0, 0))) (hc : cs[0]? = some (.slice none 0 0)) (hne : b ≠ g) (hl : l.length < 4294967281) (hT : TabsM w) (h9 : 9 ≤ g) (hb9 : 9 ≤ b) (h0 : 9 ≤ w.heap.size) :
    Calls Tryz.prog 55 #[.pointer (some ⟨g, 0, none⟩), .pointer (some ⟨b, 0, none⟩)] w fun e w' => e = .returned (.bool (headS l).isSome) ∧ Tch (fun k => k = g ∨ k = b) w w' ∧ (∃ r, TxAt w' g r) ∧ ∀ ms r, headS l = some (ms, r) → ∃ v, LSt g b cs t w w' r ms v := by
  have hg : g < w.heap.size := h.lt
  have hbl : b < w.heap.size := (Array.getElem?_eq_some_iff.1 hr).1
  have hset0 : cs.setIfInBounds 0 (.slice none 0 0) = cs := by
    apply Array.ext_getElem?
    intro j
    rw [Array.getElem?_setIfInBounds]
    split
    · rename_i e
      subst e
      rw [hc]
      have := (Array.getElem?_eq_some_iff.1 hc).1
      simp [this]
    · rfl
  have st : LSt g b cs t w w l [] (.slice none 0 0) := ⟨h, Kd.Own.nil _ _, by rw [hset0]; exact hr, .refl _ _⟩
  clear h hr hset0
  have l1 := trimL_le l
  have hB1 := st.blanks hg hne
  clear st
  obtain ⟨x, ex⟩ : ∃ x, trimL l = x := ⟨_, rfl⟩
  rw [ex] at l1 hB1
  have hK1 := fun w1 (s : LSt g b cs t w w1 x [] (.slice none 0 0)) => s.take hg hne [123]
  rcases take_one 123 x with ⟨x1, rfl, hp, htp⟩ | ⟨hx, hp, htp⟩
  · rw [hp, htp] at hK1
    clear hp htp
    have l2 := trimL_le x1
    rw [List.length_cons] at l1
    have hB2 := fun w1 (s : LSt g b cs t w w1 x1 [] (.slice none 0 0)) => s.blanks hg hne
    obtain ⟨y, ey⟩ : ∃ y, trimL x1 = y := ⟨_, rfl⟩
    rw [ey] at l2 hB2
    have hK2 := fun w1 (s : LSt g b cs t w w1 y [] (.slice none 0 0)) => s.take hg hne [125]
    rcases take_one 125 y with ⟨y1, rfl, hp, htp⟩ | ⟨hy, hp, htp⟩
    · rw [hp, htp] at hK2
      rw [headS_empty ex ey]
      clear hp htp ex ey
      go_enter Tryz.func55, Tryz.ntmps55
      go_wp2_with (first
        | (go_at_call 57; refine hB1.mono ?_; rintro e w1 ⟨rfl, s1⟩; clear hB1)
        | (go_at_call 91; refine (hK1 _ s1).mono ?_; rintro e w2 ⟨rfl, s2⟩; clear hK1)
        | (go_at_call 57; refine (hB2 _ s2).mono ?_; rintro e w3 ⟨rfl, s3⟩; clear hB2)
        | (go_at_call 91; refine (hK2 _ s3).mono ?_; rintro e w4 ⟨rfl, s4⟩; clear hK2))
      go_ret
      refine ⟨rfl, s4.tch, ⟨_, s4.tx⟩, fun ms r h => ?_⟩
      injection h with h
      injection h with h1 h2
      subst h1 h2
      exact ⟨_, s4⟩
    · rw [hp, htp] at hK2
      clear hp htp
      rw [headS_some ex (fun u => by rw [ey]; exact hy u), ey]
      clear ex ey
      have hyl : y.length < 4294967281 := by omega
      clear l1 l2 hy
      obtain ⟨goal, hgoal⟩ : ∃ o, matchesS 8 y [] = o := ⟨_, rfl⟩
      rw [hgoal]
      have HG : Hid (matchesS 8 y [] = goal) := hid hgoal
      clear hgoal
      go_enter Tryz.func55, Tryz.ntmps55
      go_wp2_with (first
        | (go_at_call 57; refine hB1.mono ?_; rintro e w1 ⟨rfl, s1⟩; clear hB1)
        | (go_at_call 91; refine (hK1 _ s1).mono ?_; rintro e w2 ⟨rfl, s2⟩; clear hK1)
        | (go_at_call 57; refine (hB2 _ s2).mono ?_; rintro e w3 ⟨rfl, s3⟩; clear hB2)
        | (go_at_call 91; refine (hK2 _ s3).mono ?_; rintro e w4 ⟨rfl, s4⟩; clear hK2))
      go_loopw [15] (fun iv wr => ∃ (i : Nat) (s : B8) (acc : List Mt) (v : Value), iv = .int .i64 i ∧ i ≤ 8 ∧ acc.length = i ∧ s.length < 4294967281 ∧ LSt g b cs t w wr s acc v ∧ Hid (matchesS (8 - i) s acc = goal)) (fun iv _ => (8 - intOf iv).toNat)
      case atStart => exact ⟨0, y, [], _, rfl, by omega, rfl, hyl, s4, HG⟩
      case round =>
        clear s1 s2 s3 s4 HG hyl
        obtain ⟨i, s, acc, v, rfl, hi, ha, hs, st, HG⟩ := hrel
        by_cases h8 : i < 8
        · have e8 : 8 - i = (7 - i) + 1 := by omega
          have hG := HG.out
          rw [e8] at hG
          clear HG e8
          have hM := st.match hg hbl hne hs hT h9 hb9 h0
          cases hm : matchS s with
          | none =>
            rw [mnone _ _ hm] at hG
            rw [hm] at hM
            subst hG
            clear hm
            go_wp2_with (go_at_call 92; refine hM.mono ?_; rintro e w5 ⟨rfl, t5, x5, _⟩; clear hM)
            go_ret
            exact ⟨rfl, t5, x5, fun _ _ h => by cases h⟩
          | some q =>
            obtain ⟨m, r⟩ := q
            have hrl := matchS_le hm
            have hst := mstep (7 - i) acc hm
            rw [hG] at hst
            rw [hm] at hM
            have HG : Hid ((∃ t, r = 125 :: t ∧ goal = some (acc ++ [m], t)) ∨ (∃ t, r = 44 :: t ∧ goal = matchesS (7 - i) t (acc ++ [m])) ∨ ((∀ t, r ≠ 125 :: t) ∧ (∀ t, r ≠ 44 :: t) ∧ goal = none)) := hid hst
            clear hm hG hst
            go_wp2_with (go_at_call 92; refine hM.mono ?_; rintro e w5 ⟨rfl, t5, _, hs5⟩; obtain ⟨s5, n5, r5⟩ := hs5 m r rfl; clear hM hs5 st)
            have hv0 : (cs.setIfInBounds 0 v)[0]? = some v := by
              have := (Array.getElem?_eq_some_iff.1 hc).1
              simp [this]
            have c0 := held_cell s5.row hv0
            have f0 := held_frozen (i := 0) s5.row
            have m0 : w5.cell? ⟨wr.heap.size, 0, none⟩ = some (.string ⟨m.name.toArray⟩) := held_cell r5 rfl
            have m1 : w5.cell? ⟨wr.heap.size, 1, none⟩ = some (.int .i64 m.op) := held_cell r5 rfl
            have m2 : w5.cell? ⟨wr.heap.size, 2, none⟩ = some (.string ⟨m.val.toArray⟩) := held_cell r5 rfl
            have hz5 := s5.tch.size
            have hown : ∀ o, KM.Own (w5.drew.alloc o) w.heap.size v acc := fun o => (s5.own.below (Below.refl _ w5).drew).alloc o
            have hrow : ∀ o w6, Below w.heap.size (w5.drew.alloc o) w6 → w6.heap[b]? = some (.cells (cs.setIfInBounds 0 v) t (0, 0)) := fun o w6 b6 => (b6.block b hbl).trans ((heap_alloc_old w5.drew o (show b < w5.drew.heap.size from Nat.lt_of_lt_of_le hbl hz5)).trans s5.row)
            have c1 : ∀ o, (w5.alloc o).cell? ⟨b, 0, none⟩ = some v := fun o => held_cell ((heap_alloc_old w5 o (Nat.lt_of_lt_of_le hbl hz5)).trans s5.row) hv0
            clear r5
            go_region_law (refine Kd.step_app1 rfl (.tmp 23) (.tmp 25) 38 rfl Tryz.underlying38 infoMt rfl w.heap.size v acc m rfl (hown _) w5.heap.size (heap_alloc_new w5.drew _) rfl (by unfold maxLen; omega) (by omega) (by simp; omega) ?_; intro v6 w6 o6 b6 g6; obtain ⟨A6, k6, rfl, _⟩ := o6.rd.form; have c6 := held_cell (hrow _ _ b6) hv0; have f6 := held_frozen (i := 0) (hrow _ _ b6))
            all_goals
              have hL := s5.put hg hbl hne b6 o6
              have e1 : (acc ++ [m]).length = i + 1 := by simp [ha]
              rw [e1] at hL
              clear o6 b6 g6 c6 f6 c0 f0 c1 m0 m1 m2 hown hrow
              rcases HG.out with ⟨r1, rfl, hgl⟩ | ⟨r1, rfl, hgl⟩ | ⟨n1, n2, hgl⟩
              · have hk := hL.take hg hne [125]
                rw [(take_cons 125 r1).1, (take_cons 125 r1).2] at hk
                clear HG
                subst hgl
                go_wp2_with (go_at_call 91; refine hk.mono ?_; rintro e w8 ⟨rfl, s8⟩; clear hk)
                go_ret
                refine ⟨rfl, s8.tch, ⟨_, s8.tx⟩, fun ms r h => ?_⟩
                injection h with h
                injection h with h1 h2
                subst h1 h2
                exact ⟨_, s8⟩
              · have hk := hL.take hg hne [125]
                have hp : Lib.hasPrefix (44 :: r1) [125] = false := by rfl
                rw [hp, take_no hp] at hk
                have hk2 := fun w8 (s8 : LSt g b cs t w w8 (44 :: r1) (acc ++ [m]) (.slice A6 (i + 1) k6)) => s8.take hg hne [44]
                simp only [(take_cons 44 r1).1, (take_cons 44 r1).2] at hk2
                rw [List.length_cons] at hrl
                have HG2 : Hid (matchesS (7 - i) r1 (acc ++ [m]) = goal) := hid hgl.symm
                clear HG hgl hp
                go_wp2_with (first
                  | (go_at_call 91; refine hk.mono ?_; rintro e w8 ⟨rfl, s8⟩; clear hk)
                  | (go_at_call 91; refine (hk2 _ s8).mono ?_; rintro e w9 ⟨rfl, s9⟩; clear hk2))
                refine ⟨⟨i + 1, r1, acc ++ [m], _, by simp, by omega, by simp [ha], by omega, s9, ?_⟩, by simp only [intOf]; omega⟩
                have e2 : 8 - (i + 1) = 7 - i := by omega
                rw [e2]
                exact HG2
              · have hk := hL.take hg hne [125]
                have hp : Lib.hasPrefix r [125] = false := by
                  rcases take_one 125 r with ⟨t1, e, _⟩ | ⟨_, e, _⟩
                  · exact absurd e (n1 t1)
                  · exact e
                have hp2 : Lib.hasPrefix r [44] = false := by
                  rcases take_one 44 r with ⟨t1, e, _⟩ | ⟨_, e, _⟩
                  · exact absurd e (n2 t1)
                  · exact e
                rw [hp, take_no hp] at hk
                have hk2 := fun w8 (s8 : LSt g b cs t w w8 r (acc ++ [m]) (.slice A6 (i + 1) k6)) => s8.take hg hne [44]
                simp only [hp2, take_no hp2] at hk2
                clear HG hp hp2 n1 n2
                subst hgl
                go_wp2_with (first
                  | (go_at_call 91; refine hk.mono ?_; rintro e w8 ⟨rfl, s8⟩; clear hk)
                  | (go_at_call 91; refine (hk2 _ s8).mono ?_; rintro e w9 ⟨rfl, s9⟩; clear hk2))
                go_ret
                exact ⟨rfl, s9.tch, ⟨_, s9.tx⟩, fun _ _ h => by cases h⟩
        · obtain rfl : i = 8 := by omega
          have hG : none = goal := HG.out
          subst hG
          clear HG
          go_wp2_with fail
          go_ret
          exact ⟨rfl, st.tch, ⟨_, st.tx⟩, fun _ _ h => by cases h⟩
  · rw [hp, htp] at hK1
    rw [headS_no (fun u => by rw [ex]; exact hx u)]
    clear hp htp hx ex
    go_enter Tryz.func55, Tryz.ntmps55
    go_wp2_with (first
      | (go_at_call 57; refine hB1.mono ?_; rintro e w1 ⟨rfl, s1⟩; clear hB1)
      | (go_at_call 91; refine (hK1 _ s1).mono ?_; rintro e w2 ⟨rfl, s2⟩; clear hK1))
    go_ret
    exact ⟨rfl, s2.tch, ⟨_, s2.tx⟩, fun _ _ h => by cases h⟩
end Go.Proofs.YtlhodanpfpfodaaGreatDoor
