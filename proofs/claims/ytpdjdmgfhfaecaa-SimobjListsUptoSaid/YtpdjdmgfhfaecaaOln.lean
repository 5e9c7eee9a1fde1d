/-
  SimobjLists: the round's list, the signs beside it, the end. Conditions: those that each theorem names.
-/
import Derived.Test.YtpdjdmgfhfaecaaOlm
namespace Go.Proofs.Ytpdjdmgfhfaecaa
open Go.RowKit Go.Icz Go.Maps Go.ChangeMaps Go.MapKept
set_option maxRecDepth 100000
def lstM (M : SM) : List ByteArray := (listM M ⟨#[]⟩).1.map kb
def ksM (M : SM) : List ByteArray := (rises M.L).map kb
theorem mem_lst {M : SM} (h : errS M = 0) {k : ByteArray} : k ∈ lstM M ↔ k ∈ akeys (listed M ⟨#[]⟩) := by
  unfold lstM
  rw [listM_ok M h]
  exact mem_rises
theorem mem_ks {M : SM} {k : ByteArray} : k ∈ ksM M ↔ k ∈ akeys M.L := mem_rises
theorem listed_small {M : SM} {c : Nat} (h : WfS M c) {k : ByteArray} (hk : k ∈ akeys (listed M ⟨#[]⟩)) : k.size ≤ 64 := by
  rcases backs_mem (mem_pre.1 hk).2 with hb | ⟨x, hx, rfl⟩
  · rw [keys_unit] at hb
    obtain ⟨e, he, rfl⟩ := List.mem_map.1 hb
    exact h.kz e he
  · exact h.cz x (late_mem hx).1
theorem lst_length {M : SM} {c : Nat} (h : WfS M c) : (lstM M).length ≤ 4096 + c := by
  unfold lstM listM
  rw [beg_nil, List.length_map]
  simp only [Bool.true_eq_false, if_false]
  split
  · simp
  · show (rises (listed M ⟨#[]⟩)).length ≤ _
    rw [rises_length]
    have h1 : (listed M ⟨#[]⟩).length ≤ (backs (unitOf M.L) (lateS M)).length := List.length_filter_le _ _
    have h2 := len_back (unitOf M.L) (lateS M)
    have h3 : (unitOf M.L).length = M.L.length := by simp [unitOf]
    have h4 : (lateS M).length ≤ M.ch.length := by
      have := (List.takeWhile_prefix (lateB M) (l := M.ch.reverse)).length_le
      rw [List.length_reverse] at this
      exact this
    have := h.ln
    have := h.lc
    omega
theorem ks_length {M : SM} {c : Nat} (h : WfS M c) : (ksM M).length ≤ 4096 := by
  unfold ksM
  rw [List.length_map, rises_length]
  exact h.ln
variable {W w w' : World} {q p b1 b2 ib c n m : Nat} {M M' : SM} {fc fw : ByteArray → Nat} {v : Value} {lst : List ByteArray} {g : ByteArray → Bool}
theorem Il.list (h : Il W w q p b1 b2 (fun _ => False) c n M fc fw) (hc : c + 1 ≤ 4194304) :
    Calls Try.prog 14 #[.pointer (some ⟨q, 0, none⟩), .string ⟨#[]⟩] w fun e w' => ∃ A C, e = .returned (.tuple #[.slice A (lstM M).length C, .int .i64 (errS M)]) ∧ Hid (KS.Own w' W.heap.size (.slice A (lstM M).length C) (lstM M)) ∧ Hid (Il W w' q p b1 b2 (fun _ => False) (c + 1) n (askS M) fc fw) := by
  refine (List_is h.st hc (h.hT (fun _ h => h.elim)) ⟨#[]⟩ (by decide)).mono ?_
  rw [listM_nil]
  rintro e w2 ⟨A, k, C, rfl, ow, d⟩
  have hk : k = (lstM M).length := by
    obtain ⟨A', C', hv, _⟩ := ow.rd.form
    injection hv
  subst hk
  exact ⟨A, C, rfl, hid (ow.mono h.bel.size), hid (h.dn d)⟩
theorem Il.keys (h : Il W w q p b1 b2 (fun _ => False) c n M fc fw) :
    Calls Try.prog 20 #[.pointer (some ⟨q, 0, none⟩)] w fun e w' => ∃ A C, e = .returned (.slice A (ksM M).length C) ∧ Hid (KS.Own w' W.heap.size (.slice A (ksM M).length C) (ksM M)) ∧ Hid (Below w.heap.size w w') := by
  refine (Keys_is h.st).mono ?_
  rintro e w2 ⟨u, rfl, ow, b⟩
  obtain ⟨A', C', hv, _⟩ := ow.rd.form
  subst hv
  exact ⟨A', C', rfl, hid (ow.mono h.bel.size), hid b⟩
/-- The store, the maps of numbers, the signs, the list. -/
structure Jn (W w : World) (q p b1 b2 ib c n : Nat) (M : SM) (fc fw : ByteArray → Nat) (v : Value) (lst : List ByteArray) (m : Nat) (g : ByteArray → Bool) : Prop where
  il : Il W w q p b1 b2 (· = ib) c n M fc fw
  mb : MB w ib m g
  lo : W.heap.size ≤ ib
  n1 : ib ≠ b1
  n2 : ib ≠ b2
  ow : KS.Own w W.heap.size v lst
  oi : v.ownBlock ≠ some ib
theorem Il.sign (h : Il W w q p b1 b2 (fun _ => False) c n M fc fw) (ow : KS.Own w W.heap.size v lst) : Jn W (w.alloc (.map #[] 0)) q p b1 b2 w.heap.size c n M fc fw v lst 0 (fun _ => false) := by
  have ba := (Below.refl w.heap.size w).alloc (Nat.le_refl _) (.map #[] 0)
  have h1 := h.mc.lt
  have h2 := h.mw.lt
  exact ⟨(h.re (Y := (· = w.heap.size)) (fun k hk hl => by omega)).below ba, MB.made w, h.bel.size, by omega, by omega, ow.below ba, fun e => by have := (ow.lt _ e).2; omega⟩
theorem Jn.below (h : Jn W w q p b1 b2 ib c n M fc fw v lst m g) (b : Below w.heap.size w w') : Jn W w' q p b1 b2 ib c n M fc fw v lst m g :=
  ⟨h.il.below b, h.mb.touch (Tch.of_below (S := fun _ => False) b) (fun h => h), h.lo, h.n1, h.n2, h.ow.below b, h.oi⟩
theorem Jn.put (h : Jn W w q p b1 b2 ib c n M fc fw v lst m g) (k : ByteArray) (hk : k.size ≤ 64) (hm : m ≤ 8388608) :
    ∃ w', (Instr.mapUpdate 57 (.map (some ib)) (.string k) (.bool true)).run Try.prog w = .ok () w' ∧ Jn W w' q p b1 b2 ib c n M fc fw v lst (m + 1) (Go.Icz.upd g k true) := by
  have e1 : 8388609 ≤ maxLen := by decide
  obtain ⟨w', h1, h2, t⟩ := h.mb.store k (by omega) true (by omega)
  exact ⟨w', h1, h.il.far t rfl h.n1 h.n2 h.lo, h2, h.lo, h.n1, h.n2, h.ow.touch t (fun j hj => by rw [hj]; exact h.oi), h.oi⟩
theorem Jn.look (h : Jn W w q p b1 b2 ib c n M fc fw v lst m g) (k : ByteArray) (hk : k.size ≤ 64) (x : Bool) (hx : (alook M.L k).isSome = x) :
    Calls Try.prog 15 #[.pointer (some ⟨q, 0, none⟩), .string k] w fun e w' => ∃ A r C, e = .returned (.tuple #[.slice A r C, .bool x]) ∧ Hid (Jn W w' q p b1 b2 ib c n M fc fw v lst m g) := by
  have e1 : 64 ≤ maxLen := by decide
  refine (Look_is h.il.st k (by omega)).mono ?_
  rintro e w2 ⟨A, r, C, rfl, ow, b⟩
  exact ⟨A, r, C, by rw [hx], hid (h.below b)⟩
theorem ks_cell {B : Nat} {gb off cp : Nat} {len : Nat} (h : KS.Own w B (.slice (some ⟨gb, off, none⟩) len cp) lst) {j : Nat} (hj : j < lst.length) : w.cell? ⟨gb, off + j, none⟩ = some (.string lst[j]) := by
  obtain ⟨b, o, hA, _, hc⟩ := ks_at h.rd (by omega)
  injection hA with hA
  injection hA with e1 e2 _
  subst e1 e2
  exact hc j hj
theorem below_drewN' (w : World) (k : Nat) : Below w.heap.size w (w.drewN k) := ⟨rfl, rfl, rfl, Nat.le_refl _, fun _ _ => rfl⟩
/-- What a round's test reads, wherever the draws are. -/
theorem Jn.reads (h : Jn W w q p b1 b2 ib c n M fc fw v lst m g) (k : ByteArray) (hk : k.size ≤ 64) (a : Nat) :
    (Instr.lookup 56 (.map (some b1)) (.string k) false).run Try.prog (w.drewN a) = .ok (.int .i64 (fc k)) (w.drewN a) ∧ (Instr.lookup 56 (.map (some b2)) (.string k) false).run Try.prog (w.drewN a) = .ok (.int .i64 (fw k)) (w.drewN a) ∧ (Instr.lookup 57 (.map (some ib)) (.string k) false).run Try.prog (w.drewN a) = .ok (.bool (g k)) (w.drewN a) := by
  have e1 : 64 ≤ maxLen := by decide
  have hb := h.below (below_drewN' w a)
  exact ⟨hb.il.mc.look k (by omega), hb.il.mw.look k (by omega), hb.mb.look k (by omega)⟩
theorem Jn.now (h : Jn W w q p b1 b2 ib c n M fc fw v lst m g) (nw : Nat) (hn : M.now = nw) (a : Nat) : Calls Try.prog 21 #[.pointer (some ⟨q, 0, none⟩)] (w.drewN a) fun e w' => e = .returned (.int .i64 (nw : Int)) ∧ w' = w.drewN a := by
  rw [← hn]
  exact Now_is (h.below (below_drewN' w a)).il.st
/-- The end: the failure off, the lag gone by. -/
def endM (M : SM) : SM := { failS M 0 false with now := M.now + M.lag }
theorem Il.off (h : Il W w q p b1 b2 (fun _ => False) c n M fc fw) : Calls Try.prog 12 #[.pointer (some ⟨q, 0, none⟩), .int .i64 0, .bool false] w fun e w' => e = .returned (.tuple #[]) ∧ Hid (Il W w' q p b1 b2 (fun _ => False) c n (failS M 0 false) fc fw) := by
  refine (Fail_is h.st 0 false (by decide)).mono ?_
  rintro e w2 ⟨rfl, d⟩
  exact ⟨rfl, hid (h.dn d)⟩
theorem Il.past (h : Il W w q p b1 b2 (fun _ => False) c n (failS M 0 false) fc fw) (hn : M.now ≤ 1000000) (hl : M.lag ≤ 1000) : Calls Try.prog 18 #[.pointer (some ⟨q, 0, none⟩), .int .i64 (M.lag : Int)] w fun e w' => e = .returned (.int .i64 0) ∧ Hid (Il W w' q p b1 b2 (fun _ => False) c n (endM M) fc fw) := by
  have e1 : tickM (failS M 0 false) (M.lag : Int) = (0, endM M) := by
    unfold tickM
    rw [if_pos (by unfold tickB; exact decide_eq_true (show 0 ≤ (M.lag : Int) ∧ (M.lag : Int) ≤ 1073741824 ∧ ((M.now : Nat) : Int) + (M.lag : Int) ≤ 1099511627776 by omega))]
    rfl
  refine (Tick_is h.st (h.hT (fun _ h => h.elim)) (M.lag : Int)).mono ?_
  rw [e1]
  rintro e w2 ⟨rfl, d⟩
  exact ⟨rfl, hid (h.dn d)⟩
theorem end_err (M : SM) : errS (endM M) = 0 := by
  unfold errS endM failS nextF
  simp
theorem end_list {c : Nat} (h : WfS (endM M) c) (h0 : ∀ x ∈ M.ch, x.t ≤ M.now) : lstM (endM M) = ksM (endM M) := by
  unfold lstM ksM
  rw [listM_ok _ (end_err M), list_still h.nn]
  intro x hx
  have := h0 x hx
  show x.t + M.lag ≤ M.now + M.lag
  omega
theorem Il.texts {A : Option Addr} {C : Nat} {L : List ByteArray} (h : Il W w q p b1 b2 (fun _ => False) c n M fc fw) (hL : L = ksM M) (ow : KS.Own w W.heap.size (.slice A L.length C) L) :
    Calls Try.prog 20 #[.pointer (some ⟨q, 0, none⟩)] w fun e w' => ∃ A2 C2, e = .returned (.slice A2 L.length C2) ∧ Hid (Calls Try.prog 23 #[.slice A L.length C, .slice A2 L.length C2] w' fun e w'' => e = .returned (.bool true) ∧ Below W.heap.size W w'') := by
  have hz := ks_length h.st.2
  rw [← hL] at hz
  refine h.keys.mono ?_
  rw [← hL]
  rintro e w2 ⟨A2, C2, rfl, ow2, b⟩
  refine ⟨A2, C2, rfl, hid ((Texts_is _ _ L L w2 (ow.below b.out).rd ow2.out.rd (by omega) (by omega)).mono ?_)⟩
  rintro e w3 ⟨rfl, b3⟩
  have b4 := h.bel.trans (b.out.mono h.bel.size)
  exact ⟨by simp, b4.trans (b3.mono b4.size)⟩
end Go.Proofs.Ytpdjdmgfhfaecaa
