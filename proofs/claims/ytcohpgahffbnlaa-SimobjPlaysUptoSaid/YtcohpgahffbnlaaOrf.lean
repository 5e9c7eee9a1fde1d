/-
  Each call of the one store or of the other, both beside each other. Conditions: those that each theorem names.
-/
import Derived.Test.YtcohpgahffbnlaaOre
namespace Go.Proofs.Ytcohpgahffbnlaa
open Go.RowKit Go.Icz Go.Maps Go.ChangeMaps Go.MapKept
set_option maxRecDepth 100000
set_option maxHeartbeats 4000000
variable {w w' : World} {T T' : Nat → Prop} {m c d q p r : Nat} {lv cv : Value} {xs : List OV} {M N : SM} {L : OM}
theorem Half.nw (h : Half w T m c q p r M N) : m ≤ w.heap.size := h.1
/-- Behind a call of the program's store. -/
def HS (w : World) (T : Nat → Prop) (c q p r : Nat) (M N : SM) (w' : World) : Prop := Half w' T w'.heap.size c q p r M N ∧ Tch T w w'
theorem Half.put (h : Half w T m c q p r M N) (hT : ∀ k, w.heap.size ≤ k → T k) (hc : c + 2 ≤ 4194304) (k : ByteArray) (hk : k.size ≤ maxLen) {A : Option Addr} {cp : Nat} {l : List Nat} (hv : KB.Rd w (.slice A l.length cp) l) (hfar : 0 < l.length → ∀ g, (Value.slice A l.length cp).ownBlock = some g → ¬ T g) (hlm : l.length ≤ 1048576) :
    Calls Try.prog 10 #[.pointer (some ⟨q, 0, none⟩), .string k, .slice A l.length cp] w fun e w' => e = .returned (.int .i64 (putM M k l).1) ∧ HS w T (c + 2) q p r (putM M k l).2 N w' := by
  obtain ⟨T1, n1, s1, S, K⟩ := h.st hT
  refine (Put_is S hc n1 k hk hv (fun h0 g hg ht => hfar h0 g hg (s1 g ht)) (by omega)).mono ?_
  rintro e w1 ⟨rfl, D⟩
  exact ⟨rfl, K _ _ _ D⟩
theorem Half.del (h : Half w T m c q p r M N) (hT : ∀ k, w.heap.size ≤ k → T k) (hc : c + 2 ≤ 4194304) (k : ByteArray) (hk : k.size ≤ maxLen) :
    Calls Try.prog 20 #[.pointer (some ⟨q, 0, none⟩), .string k] w fun e w' => e = .returned (.int .i64 (delM M k).1) ∧ HS w T (c + 2) q p r (delM M k).2 N w' := by
  obtain ⟨T1, n1, s1, S, K⟩ := h.st hT
  refine (Delete_is S hc n1 k hk).mono ?_
  rintro e w1 ⟨rfl, D⟩
  exact ⟨rfl, K _ _ _ D⟩
theorem Half.list (h : Half w T m c q p r M N) (hT : ∀ k, w.heap.size ≤ k → T k) (hc : c + 1 ≤ 4194304) (k : ByteArray) (hk : k.size ≤ maxLen) :
    Calls Try.prog 12 #[.pointer (some ⟨q, 0, none⟩), .string k] w fun e w' => ∃ A n C, e = .returned (.tuple #[.slice A n C, .int .i64 (listM M k).2.1]) ∧ KS.Own w' w.heap.size (.slice A n C) ((listM M k).1.map kb) ∧ HS w T (c + 1) q p r (listM M k).2.2 N w' := by
  obtain ⟨T1, n1, s1, S, K⟩ := h.st hT
  refine (List_is S hc n1 k hk).mono ?_
  rintro e w1 ⟨A, n, C, rfl, o, D⟩
  exact ⟨A, n, C, rfl, o, K _ _ _ D⟩
theorem Half.tick (h : Half w T m c q p r M N) (hT : ∀ k, w.heap.size ≤ k → T k) (n : Int) :
    Calls Try.prog 9 #[.pointer (some ⟨q, 0, none⟩), .int .i64 n] w fun e w' => e = .returned (.int .i64 (tickM M n).1) ∧ HS w T c q p r (tickM M n).2 N w' := by
  obtain ⟨T1, n1, s1, S, K⟩ := h.st hT
  refine (Tick_is S n1 n).mono ?_
  rintro e w1 ⟨rfl, D⟩
  exact ⟨rfl, K _ _ _ D⟩
theorem Half.lag (h : Half w T m c q p r M N) (hT : ∀ k, w.heap.size ≤ k → T k) (n : Int) :
    Calls Try.prog 11 #[.pointer (some ⟨q, 0, none⟩), .int .i64 n] w fun e w' => e = .returned (.int .i64 (lagM M n).1) ∧ HS w T c q p r (lagM M n).2 N w' := by
  obtain ⟨T1, n1, s1, S, K⟩ := h.st hT
  refine (Lag_is S n).mono ?_
  rintro e w1 ⟨rfl, D⟩
  exact ⟨rfl, K _ _ _ D⟩
theorem Half.fail (h : Half w T m c q p r M N) (hT : ∀ k, w.heap.size ≤ k → T k) (k : Int) (y : Bool) (hk : k ≤ 9223372036854775807) :
    Calls Try.prog 26 #[.pointer (some ⟨q, 0, none⟩), .int .i64 k, .bool y] w fun e w' => e = .returned (.tuple #[]) ∧ HS w T c q p r (failS M k y) N w' := by
  obtain ⟨T1, n1, s1, S, K⟩ := h.st hT
  refine (Fail_is S k y hk).mono ?_
  rintro e w1 ⟨rfl, D⟩
  exact ⟨rfl, K _ _ _ D⟩
theorem Half.get (h : Half w T m c q p r M N) (hc : c + 1 ≤ 4194304) (k : ByteArray) (hk : k.size ≤ maxLen) :
    Calls Try.prog 13 #[.pointer (some ⟨q, 0, none⟩), .string k] w fun e w' => ∃ A n C, e = .returned (.tuple #[.slice A n C, .int .i64 (getM M k).2.1]) ∧ KB.Own w' w.heap.size (.slice A n C) (getM M k).1 ∧ Half w' T m (c + 1) q p r (getM M k).2.2 N ∧ Tch (fun j => T j ∧ j < m) w w' := by
  obtain ⟨hm, T1, T2, h1, h2, h12, S, lv, cv, xs, R⟩ := h
  refine (Get_is0 S hc k hk).mono ?_
  rintro e w1 ⟨A, n, C, rfl, o, S', t⟩
  exact ⟨A, n, C, rfl, o, ⟨Nat.le_trans hm t.size, T1, T2, h1, h2, h12, S', _, _, _, R.far t (fun j a b => h12 j a b)⟩, t.mono h1⟩
theorem Half.look (h : Half w T m c q p r M N) (k : ByteArray) (hk : k.size ≤ maxLen) :
    Calls Try.prog 28 #[.pointer (some ⟨q, 0, none⟩), .string k] w fun e w' => ∃ A n C, e = .returned (.tuple #[.slice A n C, .bool (alook M.L k).isSome]) ∧ KB.Own w' w.heap.size (.slice A n C) ((alook M.L k).getD []) ∧ Below w.heap.size w w' := by
  obtain ⟨hm, T1, T2, h1, h2, h12, S, _⟩ := h
  exact Look_is S k hk
theorem Half.keys (h : Half w T m c q p r M N) : Calls Try.prog 30 #[.pointer (some ⟨q, 0, none⟩)] w fun e w' => ∃ v, e = .returned v ∧ KS.Own w' w.heap.size v ((rises M.L).map kb) ∧ Below w.heap.size w w' := by
  obtain ⟨hm, T1, T2, h1, h2, h12, S, _⟩ := h
  exact Keys_is S
theorem Half.now (h : Half w T m c q p r M N) : Calls Try.prog 14 #[.pointer (some ⟨q, 0, none⟩)] w fun e w' => e = .returned (.int .i64 (M.now : Int)) ∧ w' = w := by
  obtain ⟨hm, T1, T2, h1, h2, h12, S, _⟩ := h
  exact Now_is S
theorem Half.calls (h : Half w T m c q p r M N) : Calls Try.prog 15 #[.pointer (some ⟨q, 0, none⟩)] w fun e w' => e = .returned (.int .i64 (M.calls : Int)) ∧ w' = w := by
  obtain ⟨hm, T1, T2, h1, h2, h12, S, _⟩ := h
  exact Calls_is S
-- the reference's
theorem Half.rput (h : Half w T m c q p r M N) (hT : ∀ k, w.heap.size ≤ k → T k) (hwf : WfS N d) (k : ByteArray) (hk : k.size ≤ 9223372036854775807) {A : Option Addr} {cp : Nat} {l : List Nat} (hv : KB.Rd w (.slice A l.length cp) l) (hfar : 0 < l.length → ∀ g, (Value.slice A l.length cp).ownBlock = some g → ¬ T g) (hlm : l.length ≤ 1048576) :
    Calls Try.prog 17 #[.pointer (some ⟨r, 0, none⟩), .string k, .slice A l.length cp] w fun e w' => e = .returned (.int .i64 (rputM N k l).1) ∧ HS w T c q p r M (rputM N k l).2 w' := by
  obtain ⟨T2, lv, cv, xs, n2, s2, R, K⟩ := h.rf hT
  refine (RPut_is R hwf n2 k hk hv (fun h0 g hg ht => hfar h0 g hg (s2 g ht)) hlm).mono ?_
  rintro e w1 ⟨rfl, lv', cv', xs', R', t⟩
  exact ⟨rfl, K _ _ _ _ _ R' t⟩
theorem Half.rdel (h : Half w T m c q p r M N) (hT : ∀ k, w.heap.size ≤ k → T k) (hwf : WfS N d) (k : ByteArray) (hk : k.size ≤ 9223372036854775807) :
    Calls Try.prog 21 #[.pointer (some ⟨r, 0, none⟩), .string k] w fun e w' => e = .returned (.int .i64 (rdelM N k).1) ∧ HS w T c q p r M (rdelM N k).2 w' := by
  obtain ⟨T2, lv, cv, xs, n2, s2, R, K⟩ := h.rf hT
  refine (RDelete_is R hwf n2 k hk).mono ?_
  rintro e w1 ⟨rfl, lv', cv', xs', R', t⟩
  exact ⟨rfl, K _ _ _ _ _ R' t⟩
theorem Half.rlist (h : Half w T m c q p r M N) (hT : ∀ k, w.heap.size ≤ k → T k) (hwf : WfS N d) (k : ByteArray) (hk : k.size ≤ 9223372036854775807) :
    Calls Try.prog 22 #[.pointer (some ⟨r, 0, none⟩), .string k] w fun e w' => ∃ v, e = .returned (.tuple #[v, .int .i64 (listM N k).2.1]) ∧ KS.Own w' w.heap.size v (if begB k = false ∨ errS N ≠ 0 then [] else rlist N k) ∧ HS w T c q p r M (listM N k).2.2 w' := by
  obtain ⟨T2, lv, cv, xs, n2, s2, R, K⟩ := h.rf hT
  refine (RList_is R hwf n2 k hk hwf.cz).mono ?_
  rintro e w1 ⟨v, rfl, o, R', t⟩
  exact ⟨v, rfl, o, K _ _ _ _ _ R' t⟩
theorem Half.rtick (h : Half w T m c q p r M N) (hT : ∀ k, w.heap.size ≤ k → T k) (hwf : WfS N d) (n : Int) :
    Calls Try.prog 24 #[.pointer (some ⟨r, 0, none⟩), .int .i64 n] w fun e w' => e = .returned (.int .i64 (tickM N n).1) ∧ HS w T c q p r M (tickM N n).2 w' := by
  obtain ⟨T2, lv, cv, xs, n2, s2, R, K⟩ := h.rf hT
  have hTr := R.tr
  refine (RTick_is R hwf n).mono ?_
  rintro e w1 ⟨rfl, R', t⟩
  exact ⟨rfl, K _ _ _ _ _ R' (t.mono (fun j hj => by rw [hj]; exact hTr))⟩
theorem Half.rlag (h : Half w T m c q p r M N) (hT : ∀ k, w.heap.size ≤ k → T k) (n : Int) :
    Calls Try.prog 25 #[.pointer (some ⟨r, 0, none⟩), .int .i64 n] w fun e w' => e = .returned (.int .i64 (lagM N n).1) ∧ HS w T c q p r M (lagM N n).2 w' := by
  obtain ⟨T2, lv, cv, xs, n2, s2, R, K⟩ := h.rf hT
  have hTr := R.tr
  refine (RLag_is R n).mono ?_
  rintro e w1 ⟨rfl, R', t⟩
  exact ⟨rfl, K _ _ _ _ _ R' (t.mono (fun j hj => by rw [hj]; exact hTr))⟩
theorem Half.rfail (h : Half w T m c q p r M N) (hT : ∀ k, w.heap.size ≤ k → T k) (k : Int) (y : Bool) :
    Calls Try.prog 27 #[.pointer (some ⟨r, 0, none⟩), .int .i64 k, .bool y] w fun e w' => e = .returned (.tuple #[]) ∧ HS w T c q p r M (failS N k y) w' := by
  obtain ⟨T2, lv, cv, xs, n2, s2, R, K⟩ := h.rf hT
  have hTr := R.tr
  refine (RFail_is R k y).mono ?_
  rintro e w1 ⟨rfl, R', t⟩
  exact ⟨rfl, K _ _ _ _ _ R' (t.mono (fun j hj => by rw [hj]; exact hTr))⟩
theorem Half.rget (h : Half w T m c q p r M N) (hwf : WfS N d) (hr : Rise (akeys N.L)) (k : ByteArray) (hk : k.size ≤ 9223372036854775807) :
    Calls Try.prog 19 #[.pointer (some ⟨r, 0, none⟩), .string k] w fun e w' => ∃ A n C, e = .returned (.tuple #[.slice A n C, .int .i64 (getM N k).2.1]) ∧ KB.Rd w' (.slice A n C) (getM N k).1 ∧ (∀ g, (Value.slice A n C).ownBlock = some g → T g ∧ g < m) ∧ Half w' T m c q p r M (getM N k).2.2 ∧ Tch (fun j => T j ∧ j < m) w w' := by
  obtain ⟨hm, T1, T2, h1, h2, h12, S, lv, cv, xs, R⟩ := h
  refine (RGet_is R hwf hr k hk).mono ?_
  rintro e w1 ⟨A, n, C, rfl, o, hg, R', t⟩
  exact ⟨A, n, C, rfl, o, fun g h => h2 g (hg g h), ⟨Nat.le_trans hm t.size, T1, T2, h1, h2, h12, S.far t (fun j a b => h12 j b a), _, _, _, R'⟩, t.mono h2⟩
theorem Half.find (h : Half w T m c q p r M N) (k : ByteArray) (hlen : N.L.length ≤ 4096) :
    Calls Try.prog 29 #[.pointer (some ⟨r, 0, none⟩), .string k] w fun e w' => e = .returned (.tuple #[.int .i64 ((rfind N.L k).1 : Int), .bool (rfind N.L k).2]) ∧ Below w.heap.size w w' := by
  obtain ⟨hm, T1, T2, h1, h2, h12, S, lv, cv, xs, R⟩ := h
  exact Find_is R k hlen
theorem Half.rkeys (h : Half w T m c q p r M N) (hlen : N.L.length ≤ 4096) : Calls Try.prog 31 #[.pointer (some ⟨r, 0, none⟩)] w fun e w' => ∃ v, e = .returned v ∧ KS.Own w' w.heap.size v (akeys N.L) ∧ Below w.heap.size w w' := by
  obtain ⟨hm, T1, T2, h1, h2, h12, S, lv, cv, xs, R⟩ := h
  exact RKeys_is R hlen
/-- What of the reference's store is read. -/
theorem Half.row (h : Half w T m c q p r M N) : ∃ lv cv, w.heap[r]? = some (.cells (rfR N lv cv) 48 (0, 0)) := by
  obtain ⟨hm, T1, T2, h1, h2, h12, S, lv, cv, xs, R⟩ := h
  exact ⟨lv, cv, R.r_⟩
theorem Half.found (h : Half w T m c q p r M N) (hr : Rise (akeys N.L)) (k : ByteArray) (hf : (rfind N.L k).2 = true) : ∃ n cp b off l A2 C2, w.cell? ⟨r, 4, none⟩ = some (.slice (some ⟨b, off, none⟩) n cp) ∧ (rfind N.L k).1 < n ∧ w.cell? ⟨b, off + (rfind N.L k).1 * 2 + 1, none⟩ = some (.slice A2 l.length C2) ∧ alook N.L k = some l ∧ KB.Rd w (.slice A2 l.length C2) l := by
  obtain ⟨hm, T1, T2, h1, h2, h12, S, lv, cv, xs, R⟩ := h
  obtain ⟨A, cp, b, off, l, A2, C2, rfl, rfl, hi, hc, ha, ho, _⟩ := R.found hr k hf
  exact ⟨xs.length, cp, b, off, l, A2, C2, held_cell R.r_ rfl, hi, hc, ha, ho.rd⟩
end Go.Proofs.Ytcohpgahffbnlaa
