/-
  Rising lists of names; a replay of the changes tells what a list tells. Conditions: those that each theorem names.
-/
import Derived.Test.YtcohpgahffbnlaaOr3
namespace Go.Icz
open Go.RowKit
open Go.Proofs.Ytcohpgahffbnlaa (kb)
theorem bytesLess_lt : ∀ x y : List UInt8, Go.Op.bytesLess x y = decide (x < y)
  | _, [] => by simp [Go.Op.bytesLess]
  | [], _ :: _ => by simp [Go.Op.bytesLess]
  | a :: x, b :: y => by
    have ih := bytesLess_lt x y
    unfold Go.Op.bytesLess
    rw [ih, Bool.eq_iff_iff]
    simp [List.cons_lt_cons_iff]
theorem blt_lt (a b : ByteArray) : blt a b = decide (a.data.toList < b.data.toList) := by
  unfold blt
  rw [ByteArray.toList_eq, ByteArray.toList_eq, bytesLess_lt]
theorem ba_ext {a b : ByteArray} (h : a.data.toList = b.data.toList) : a = b := ByteArray.ext (Array.ext' h)
theorem blt_irr (a : ByteArray) : blt a a = false := by rw [blt_lt]; exact decide_eq_false (List.lt_irrefl _)
theorem blt_trans {a b c : ByteArray} (h1 : blt a b = true) (h2 : blt b c = true) : blt a c = true := by
  rw [blt_lt, decide_eq_true_eq] at *
  exact List.lt_trans h1 h2
theorem blt_tot {a b : ByteArray} (h : blt a b = false) (hn : a ≠ b) : blt b a = true := by
  rw [blt_lt, decide_eq_false_iff_not] at h
  rw [blt_lt, decide_eq_true_eq]
  have h1 : b.data.toList ≤ a.data.toList := List.not_lt.1 h
  by_cases h2 : b.data.toList < a.data.toList
  · exact h2
  · exact absurd (ba_ext (List.le_antisymm (List.not_lt.1 h2) h1)) hn
/-- Rising. -/
def Rise (l : List ByteArray) : Prop := l.Pairwise fun a b => blt a b = true
theorem Rise.nodup {l : List ByteArray} (h : Rise l) : l.Nodup := h.imp (fun h e => by rw [e, blt_irr] at h; cases h)
theorem mem_lwo {l : List ByteArray} {x y : ByteArray} : y ∈ lwo l x ↔ y ≠ x ∧ y ∈ l := by
  unfold lwo
  rw [List.mem_filter, decide_eq_true_eq]
  exact And.comm
theorem Rise.lwo {l : List ByteArray} (h : Rise l) (x : ByteArray) : Rise (lwo l x) := h.sublist List.filter_sublist
theorem lpl_take {x : ByteArray} : ∀ {l : List ByteArray}, ∀ y ∈ l.take (lpl l x), blt y x = true
  | [], y, hy => by simp at hy
  | e :: t, y, hy => by
    unfold lpl at hy
    by_cases hb : blt e x = true
    · rw [if_pos hb, List.take_succ_cons, List.mem_cons] at hy
      rcases hy with rfl | hy
      · exact hb
      · exact lpl_take y hy
    · rw [if_neg hb] at hy
      simp at hy
theorem lpl_drop {x : ByteArray} : ∀ {l : List ByteArray}, Rise l → x ∉ l → ∀ y ∈ l.drop (lpl l x), blt x y = true
  | [], _, _, y, hy => by simp at hy
  | e :: t, hr, hx, y, hy => by
    unfold lpl at hy
    have hr2 := List.pairwise_cons.1 hr
    by_cases hb : blt e x = true
    · rw [if_pos hb, List.drop_succ_cons] at hy
      exact lpl_drop hr2.2 (fun h => hx (List.mem_cons_of_mem _ h)) y hy
    · rw [if_neg hb, List.drop_zero, List.mem_cons] at hy
      have hex : blt x e = true := blt_tot (by simpa using hb) (fun e' => hx (by rw [← e']; exact List.mem_cons_self))
      rcases hy with rfl | hy
      · exact hex
      · exact blt_trans hex (hr2.1 y hy)
theorem Rise.ins {l : List ByteArray} (h : Rise l) {x : ByteArray} (hx : x ∉ l) : Rise (l.take (lpl l x) ++ [x] ++ l.drop (lpl l x)) := by
  have h2 : Rise (l.take (lpl l x) ++ l.drop (lpl l x)) := by rw [List.take_append_drop]; exact h
  obtain ⟨p1, p2, p3⟩ := List.pairwise_append.1 h2
  refine List.pairwise_append.2 ⟨List.pairwise_append.2 ⟨p1, by simp, fun a ha b hb => ?_⟩, p2, fun a ha b hb => ?_⟩
  · rw [List.mem_singleton.1 hb]
    exact lpl_take a ha
  · rcases List.mem_append.1 ha with ha | ha
    · exact p3 a ha b hb
    · rw [List.mem_singleton.1 ha]
      exact lpl_drop h hx b hb
theorem Rise.lwi {l : List ByteArray} (h : Rise l) (x : ByteArray) : Rise (lwi l x) := (h.lwo x).ins (fun hm => (mem_lwo.1 hm).1 rfl)
theorem mem_lwi {l : List ByteArray} {x y : ByteArray} : y ∈ lwi l x ↔ y = x ∨ y ∈ l := by
  unfold lwi
  rw [List.mem_append, List.mem_append, List.mem_singleton]
  have e : y ∈ lwo l x ↔ y ∈ (lwo l x).take (lpl (lwo l x) x) ∨ y ∈ (lwo l x).drop (lpl (lwo l x) x) := by
    rw [← List.mem_append, List.take_append_drop]
  rw [mem_lwo] at e
  by_cases hy : y = x
  · simp [hy]
  · simp only [hy, or_false, false_or]
    rw [← e]
    simp [hy]
/-- Rising, and these keys: it is what they tell. -/
theorem rises_rise {β : Type} {N : AL β} {l : List ByteArray} (hr : Rise l) (hn : (akeys N).Nodup) (h : ∀ k, k ∈ l ↔ k ∈ akeys N) : (rises N).map kb = l := by
  have hp : (akeys N).Perm l := (List.perm_ext_iff_of_nodup hn hr.nodup).2 fun k => (h k).symm
  have e : (N.map fun e => e.1.data.toList) = (akeys N).map fun k => k.data.toList := by unfold akeys; rw [List.map_map]; rfl
  have hs : (l.map fun k => k.data.toList).Pairwise fun a b => decide (a ≤ b) = true := by
    rw [List.pairwise_map]
    refine hr.imp fun {a b} h => ?_
    rw [blt_lt, decide_eq_true_eq] at h
    exact decide_eq_true (List.le_of_lt h)
  unfold rises
  rw [e, mergeSort_of_perm (hp.map _), List.mergeSort_of_pairwise hs, List.map_map]
  have : (kb ∘ fun k : ByteArray => k.data.toList) = id := funext fun k => ba_ext (by simp [kb])
  rw [this, List.map_id]
/-- The changes replayed: a set; a rising list. -/
def app1 (S : AL Unit) (c : Chg) : AL Unit := if c.c then aput S c.k () else adel c.k S
def appl (l : List Chg) : AL Unit := l.foldl app1 []
def lap1 (l : List ByteArray) (c : Chg) : List ByteArray := if c.c then lwi l c.k else lwo l c.k
def lapl (l : List Chg) : List ByteArray := l.foldl lap1 []
theorem appl_snoc (l : List Chg) (c : Chg) : appl (l ++ [c]) = app1 (appl l) c := by simp [appl, List.foldl_append]
theorem lapl_snoc (l : List Chg) (c : Chg) : lapl (l ++ [c]) = lap1 (lapl l) c := by simp [lapl, List.foldl_append]
theorem snoc_rec {α : Type} {P : List α → Prop} (h0 : P []) (h1 : ∀ l a, P l → P (l ++ [a])) (l : List α) : P l := by
  have : P l.reverse.reverse := by
    generalize l.reverse = m
    induction m with
    | nil => exact h0
    | cons a t ih => rw [List.reverse_cons]; exact h1 _ _ ih
  rwa [List.reverse_reverse] at this
theorem lapl_is (l : List Chg) : Rise (lapl l) ∧ (akeys (appl l)).Nodup ∧ ∀ k, k ∈ lapl l ↔ k ∈ akeys (appl l) := by
  refine snoc_rec (P := fun l => Rise (lapl l) ∧ (akeys (appl l)).Nodup ∧ ∀ k, k ∈ lapl l ↔ k ∈ akeys (appl l)) ⟨List.Pairwise.nil, List.nodup_nil, fun k => Iff.rfl⟩ (fun l c h => ?_) l
  obtain ⟨h1, h2, h3⟩ := h
  rw [lapl_snoc, appl_snoc]
  unfold lap1 app1
  cases c.c
  · exact ⟨h1.lwo _, nodup_adel h2 _, fun k => by simp only [Bool.false_eq_true, if_false]; rw [mem_lwo, mem_keys_del, h3]⟩
  · exact ⟨h1.lwi _, nodup_aput h2 _ _, fun k => by simp only [if_true]; rw [mem_lwi, mem_keys_put, h3]⟩
/-- Each change turned what was there; all together they make what is there. -/
structure Tog (M : SM) : Prop where
  all : ∀ k, k ∈ akeys (appl M.ch) ↔ k ∈ akeys M.L
  each : ∀ pre c post, M.ch = pre ++ c :: post → (c.c = true ↔ c.k ∉ akeys (appl pre))
theorem back_app (S : AL Unit) (c : Chg) (h : c.c = true ↔ c.k ∉ akeys S) (k : ByteArray) : k ∈ akeys (back1 (app1 S c) c) ↔ k ∈ akeys S := by
  rw [mem_back]
  by_cases e : k = c.k
  · rw [if_pos e, e]
    cases hc : c.c
    · rw [hc] at h
      have : ¬ (c.k ∉ akeys S) := fun hn => by have := h.2 hn; cases this
      simp only [true_iff]
      exact Classical.not_not.1 this
    · rw [hc] at h
      have := h.1 rfl
      simp [this]
  · rw [if_neg e]
    unfold app1
    cases c.c
    · simp only [Bool.false_eq_true, if_false]; rw [mem_keys_del]; simp [e]
    · simp only [if_true]; rw [mem_keys_put]; simp [e]
theorem backs_app {M : SM} (h : Tog M) : ∀ (late early : List Chg), M.ch = early ++ late.reverse → ∀ k, k ∈ akeys (backs (appl M.ch) late) ↔ k ∈ akeys (appl early) := by
  intro late
  have key : ∀ (late early : List Chg), (∃ post, M.ch = (early ++ late.reverse) ++ post) → ∀ k, k ∈ akeys (backs (appl (early ++ late.reverse)) late) ↔ k ∈ akeys (appl early) := by
    intro late
    induction late with
    | nil => intro early _ k; simp [backs]
    | cons c r ih =>
      rintro early ⟨post, he⟩ k
      have e1 : early ++ (c :: r).reverse = (early ++ r.reverse) ++ [c] := by simp
      rw [e1] at he ⊢
      show k ∈ akeys (backs (back1 (appl (early ++ r.reverse ++ [c])) c) r) ↔ _
      rw [appl_snoc]
      have hc := h.each (early ++ r.reverse) c post (by rw [he]; simp)
      rw [backs_same (fun k => back_app (appl (early ++ r.reverse)) c hc k) r k]
      exact ih early ⟨c :: post, by rw [he]; simp⟩ k
  intro early he k
  have := key late early ⟨[], by rw [List.append_nil]; exact he⟩ k
  rwa [← he] at this
/-- The changes are the early ones, then the late ones. -/
theorem early_late {M : SM} (hs : M.ch.Pairwise fun a b => a.t ≤ b.t) : M.ch = M.ch.filter (fun c => !lateB M c) ++ (lateS M).reverse := by
  have key : ∀ l : List Chg, l.Pairwise (fun a b => a.t ≤ b.t) → l = l.filter (fun c => !lateB M c) ++ (l.reverse.takeWhile (lateB M)).reverse := by
    refine snoc_rec (by intro _; rfl) fun l c ih hp => ?_
    obtain ⟨p1, _, p3⟩ := List.pairwise_append.1 hp
    rw [List.filter_append, List.reverse_append, List.reverse_singleton, List.singleton_append, List.takeWhile_cons]
    cases hl : lateB M c
    · have hall : ∀ x ∈ l, lateB M x = false := fun x hx => by
        have := p3 x hx c (by simp)
        unfold lateB at hl ⊢
        rw [decide_eq_false_iff_not] at hl ⊢
        omega
      have hf : l.filter (fun c => !lateB M c) = l := List.filter_eq_self.2 fun x hx => by rw [hall x hx]; rfl
      simp [hf, hl]
    · simp only [if_true, List.reverse_cons]
      have := ih p1
      simp only [List.filter_cons, hl, Bool.not_true, Bool.false_eq_true, if_false, List.filter_nil, List.append_nil]
      rw [← List.append_assoc, ← this]
  exact key M.ch hs
/-- What the reference lists. -/
def repM (M : SM) : List ByteArray := lapl (M.ch.filter fun c => !lateB M c)
def rlist (M : SM) (p : ByteArray) : List ByteArray := (repM M).filter fun k => hasPre p k
theorem rlist_is {M : SM} (h : Tog M) (hs : M.ch.Pairwise fun a b => a.t ≤ b.t) (hn : (akeys M.L).Nodup) (p : ByteArray) : (rises (listed M p)).map kb = rlist M p := by
  obtain ⟨a1, a2, a3⟩ := lapl_is (M.ch.filter fun c => !lateB M c)
  have hb := backs_app h (lateS M) _ (early_late hs)
  refine rises_rise (a1.sublist List.filter_sublist) (nodup_pre (nodup_back (by rw [keys_unit]; exact hn) _) p) fun k => ?_
  unfold rlist listed
  rw [List.mem_filter, mem_pre, backs_same (A := unitOf M.L) (B := appl M.ch) (fun k => by rw [keys_unit, h.all]), hb]
  unfold repM
  rw [a3]
  exact And.comm
end Go.Icz
