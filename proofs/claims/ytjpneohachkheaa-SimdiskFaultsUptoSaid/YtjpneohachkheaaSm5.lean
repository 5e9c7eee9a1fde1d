/-
  How many bytes the files of some names have. Conditions: those that the theorem names.
-/
import Derived.Test.YtjpneohachkheaaSm3
import Derived.Maps.RangeWalk
import Derived.Sort.KeysCollected
namespace Go.Icz
open Go.RowKit
/-- The bytes of those that were met. -/
def sumL (len : Nat → Nat) (left : Lit → Bool) (N : NM) : Nat := (N.map fun e => if left (kl e.1) then 0 else len e.2).sum
theorem sumL_all (len : Nat → Nat) (left : Lit → Bool) (N : NM) (h : ∀ k, left k = false) : sumL len left N = (N.map fun e => len e.2).sum := by
  unfold sumL
  simp [h]
theorem sumL_none (len : Nat → Nat) (left : Lit → Bool) (N : NM) (h : ∀ e ∈ N, left (kl e.1) = true) : sumL len left N = 0 := by
  unfold sumL
  induction N with
  | nil => rfl
  | cons a r ih =>
    rw [List.map_cons, List.sum_cons, ih (fun e he => h e (List.mem_cons_of_mem _ he)), h a (List.mem_cons_self ..)]
    rfl
theorem sumL_le (len : Nat → Nat) (left : Lit → Bool) (N : NM) : sumL len left N ≤ (N.map fun e => len e.2).sum := by
  unfold sumL
  induction N with
  | nil => exact Nat.le_refl _
  | cons a r ih =>
    rw [List.map_cons, List.sum_cons, List.map_cons, List.sum_cons]
    split <;> omega
theorem kl_same (a b : ByteArray) : (kl a).sameKey (kl b) = decide (a = b) := by
  by_cases h : a = b
  · subst h
    rw [WideAt.sameKey_self (kl_key a)]
    simp
  · rw [Maps.sameKey_ne (kl_ne h)]
    simp [h]
theorem sumL_step (len : Nat → Nat) (left : Lit → Bool) : ∀ {N : NM}, (nkeys N).Nodup → ∀ {k : ByteArray} {i : Nat}, (k, i) ∈ N → left (kl k) = true → sumL len (fun z => left z && !z.sameKey (kl k)) N = sumL len left N + len i
  | [], _, _, _, h, _ => absurd h (by simp)
  | a :: r, hn, k, i, h, hl => by
    unfold nkeys at hn
    rw [List.map_cons, List.nodup_cons] at hn
    unfold sumL
    rw [List.map_cons, List.sum_cons, List.map_cons, List.sum_cons]
    simp only [kl_same]
    rcases List.mem_cons.1 h with rfl | h'
    · have e1 : (List.map (fun e : ByteArray × Nat => if (left (kl e.1) && !decide (e.1 = k)) = true then 0 else len e.2) r) = (List.map (fun e : ByteArray × Nat => if left (kl e.1) = true then 0 else len e.2) r) := by
        refine List.map_congr_left fun e he => ?_
        have : e.1 ≠ k := fun hh => hn.1 (List.mem_map.2 ⟨e, he, hh⟩)
        simp [this]
      rw [e1]
      simp [hl]
      omega
    · have ih := sumL_step len left hn.2 h' hl
      unfold sumL at ih
      simp only [kl_same] at ih
      rw [ih]
      have : a.1 ≠ k := fun hh => hn.1 (List.mem_map.2 ⟨_, h', hh.symm⟩)
      simp [this]
      omega
end Go.Icz
namespace Go.Proofs.Ytjpneohachkheaa
open Go.RowKit Go.Icz Go.Maps Go.ChangeMaps Go.MapKept
set_option maxRecDepth 100000
theorem mbytes_is {w : World} {n : Nat} {N : NM} {fl : List FV} (h : Mp w n N (bl fl)) (hf : Fls w fl) (hn : (nkeys N).Nodup) (hi : ∀ e ∈ N, e.2 < fl.length) (hlen : ∀ x ∈ fl, x.m.b.length ≤ 1048576) (hN : N.length ≤ 1048576) :
    Calls Try.prog 40 #[.map (some n)] w fun e w' => e = .returned (.int .i64 (used (fl.map (·.m)) N : Nat)) ∧ Tch (fun _ => False) w w' := by
  obtain ⟨D, hown, ha⟩ := h
  have hlt := hown.lt
  have K : Keyed Try.prog 9 := string_keyed Try.underlying9
  obtain ⟨w1, hrun, hr, hg, hsz⟩ := hown.range K (t := 66) Try.underlying66
  obtain ⟨len, hlenD⟩ : ∃ len : Nat → Nat, len = fun i => (fileAt (fl.map (·.m)) i).b.length := ⟨_, rfl⟩
  have hU : used (fl.map (·.m)) N = (N.map fun e => len e.2).sum := by rw [hlenD]; rfl
  have hlb : ∀ i, len i ≤ 1048576 := by
    intro i
    rw [hlenD]
    simp only [fileAt, List.getD_eq_getElem?_getD, List.getElem?_map]
    cases hx : fl[i]? with
    | none => simp [f0]
    | some x => exact hlen x (List.mem_of_getElem? hx)
  have hub : (N.map fun e => len e.2).sum ≤ 1099511627776 := by
    have : ∀ M : NM, (M.map fun e => len e.2).sum ≤ M.length * 1048576 := by
      intro M
      induction M with
      | nil => simp
      | cons a r ih =>
        rw [List.map_cons, List.sum_cons, List.length_cons]
        have := hlb a.2
        omega
    have := this N
    omega
  -- one step of the range, at any world of it
  have STEP : ∀ (wr : World) (left : Lit → Bool) (cnt : Nat), wr.ranges Try.prog 9 rPt n w.heap.size N.length D left cnt → Hid (∀ x, left x = true → Maps.has D x = true) → Tch (fun _ => False) w wr → Fls wr fl →
      (((Instr.next (.pointer (some ⟨w.heap.size, 0, none⟩)) false 0).run Try.prog wr = .ok (.tuple #[.bool false]) wr ∧ Hid (sumL len left N = used (fl.map (·.m)) N)) ∨
       ∃ (s : ByteArray) (g c : Nat) (A : Option Addr) (L : Nat) (w' : World) (cnt' : Nat), (Instr.next (.pointer (some ⟨w.heap.size, 0, none⟩)) false 0).run Try.prog wr = .ok (.tuple #[.bool true, .string s, .pointer (some ⟨g, 0, none⟩)]) w' ∧ (Instr.entry (.pointer (some ⟨w.heap.size, 0, none⟩))).run Try.prog w' = .ok (.tuple #[.string s, .pointer (some ⟨g, 0, none⟩)]) w' ∧
         w'.cell? ⟨g, 0, none⟩ = some (.slice A L c) ∧ IntKind.i64.wrap ((sumL len left N : Int) + (L : Int)) = ((sumL len left N + L : Nat) : Int) ∧
         Hid (w'.ranges Try.prog 9 rPt n w.heap.size N.length D (fun z => left z && !z.sameKey (kl s)) cnt' ∧ cnt' < cnt ∧ (∀ x, (left x && !x.sameKey (kl s)) = true → Maps.has D x = true) ∧ Tch (fun _ => False) w w' ∧ Fls w' fl ∧ sumL len (fun z => left z && !z.sameKey (kl s)) N = sumL len left N + L)) := by
    intro wr left cnt hr hlf ht hfl
    rcases hr.next K 0 with ⟨h0, hall, hrun⟩ | ⟨key, v, kl0, y, w', cnt', hkey, hlk, hv, hat, hrun, hrg, hlt', hgr, hsz', hen⟩
    · exact .inl ⟨hrun, hid (by rw [sumL_all len left N (fun k => hall k), hU])⟩
    · obtain ⟨x, rfl, rfl, hx⟩ := Maps.keyOf_str Try.underlying9 hkey
      have hhas := hlf.out _ hlk
      obtain ⟨s, hs⟩ : ∃ s : ByteArray, s = ⟨x.toArray⟩ := ⟨_, rfl⟩
      have hks : Lit.string x = kl s := by rw [hs]; unfold kl; simp
      have hes : encStr x = .string s := by rw [hs]
      rw [hks] at hhas hlk hrg hat
      rw [hes] at hrun hen
      rw [ha.has] at hhas
      obtain ⟨i, hli⟩ := Option.isSome_iff_exists.1 hhas
      have hgi := ha.at_ s i hli
      rw [hat] at hgi
      have hil := hi _ (look_mem hli)
      have hgd : (bl fl).getD i 0 = fl[i].g := by
        unfold bl
        rw [List.getD_eq_getElem?_getD, List.getElem?_map, List.getElem?_eq_getElem hil]
        rfl
      have hv2 : v = .pointer (some ⟨fl[i].g, 0, none⟩) := by
        refine rPt_some (p := y.2) ?_
        rw [hv, ← hgd, ← hgi]
      subst hv2
      have tr : Tch (· = w.heap.size) wr w' := Tch.grown hgr (fun k hk => by injection hk with hk; exact hk.symm)
      have hfl' : Fls w' fl := hfl.touch tr (fun j hj x hx hff => by
        have h1 := (hf.each x hx).lt hff
        omega)
      have hF := hfl'.each _ (List.getElem_mem hil)
      obtain ⟨A, c, hbv, _⟩ := hF.b.rd.form
      have hLl : len i = fl[i].m.b.length := by
        rw [hlenD]
        simp only [fileAt, List.getD_eq_getElem?_getD, List.getElem?_map, List.getElem?_eq_getElem hil]
        rfl
      have hsl := sumL_le len left N
      have hll := hlb i
      refine .inr ⟨s, fl[i].g, c, A, len i, w', cnt', hrun, hen, ?_, ?_, hid ⟨hrg, hlt', fun x hx => ?_, ht.out (tr.mono (fun k hk => ?_)) (fun j hj => hj), hfl', ?_⟩⟩
      · rw [hLl, ← hbv]
        exact held_cell hF.at_ rfl
      · rw [IntKind.wrap_i64]
        omega
      · rw [Bool.and_eq_true] at hx
        exact hlf.out _ hx.1
      · exact .inr (by omega)
      · exact sumL_step len left hn (look_mem hli) hlk
  have hr0 : Hid (∀ x, Maps.has D x = true → Maps.has D x = true) := hid (fun _ h => h)
  have hs0 : Hid (sumL len (Maps.has D) N = 0) := hid (sumL_none _ _ _ (fun e he => by rw [ha.has, look_isSome]; exact List.mem_map.2 ⟨e, he, rfl⟩))
  have ht0 : Tch (fun _ => False) w w1 := Tch.grown hg (fun k hk => by cases hk)
  have hf0 : Fls w1 fl := hf.touch ht0 (fun j hj => hj.elim)
  have hr1 := hid hr
  clear hown ha hg hr hf hn hi hlen hU hub hlb hsz
  go_enter Try.func40, Try.ntmps40
  go_wp2
  go_loopw [3] (fun sv wr => ∃ (left : Lit → Bool) (cnt : Nat), sv = .int .i64 (sumL len left N : Nat) ∧ Hid (wr.ranges Try.prog 9 rPt n w.heap.size N.length D left cnt) ∧ Hid (∀ x, left x = true → Maps.has D x = true) ∧ Hid (Tch (fun _ => False) w wr) ∧ Hid (Fls wr fl)) (fun _ wr => wr.rangeLeft n w.heap.size)
  case atStart => exact ⟨_, _, by rw [hs0.out]; rfl, hr1, hr0, hid ht0, hid hf0⟩
  case round =>
    obtain ⟨left, cnt, rfl, hra, hlf, htt, hff⟩ := hrel
    have hm := hid hra.out.left_eq
    rcases STEP wr left cnt hra.out hlf htt.out hff.out with ⟨hrun2, HY⟩ | ⟨s, g, c, A, L, w', cnt', hrun2, hen, c0, hwp, HN⟩
    · clear STEP
      go_wp2
      go_ret
      exact ⟨by rw [← HY.out]; rfl, htt.out⟩
    · clear STEP
      generalize sumL len left N = sm at *
      go_wp2
      go_roundw
      case rel => exact ⟨_, cnt', by rw [HN.out.2.2.2.2.2, Int.natCast_add], hid HN.out.1, hid HN.out.2.2.1, hid HN.out.2.2.2.1, hid HN.out.2.2.2.2.1⟩
      case measure => rw [hm.out, HN.out.1.left_eq]; exact HN.out.2.1
end Go.Proofs.Ytjpneohachkheaa
