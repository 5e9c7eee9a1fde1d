/-
  What an Index that New made answers of a number's labels. Condition: sizes as the theorem says.
-/
import Derived.Test.YtnlkipgjacgddaaDoorLooks
import Derived.Test.YtnlkipgjacgddaaDoorOrder
import Derived.Shelf.SlGeneric
import Derived.Shelf.SlicesE.Clone
import Derived.Ground.SlgnProg
import Derived.Deep.AppendLies
import Derived.Deep.SlicePairs
namespace Go.Proofs
open Go.Shelf
def Tryd.cloneLc_ren : Go.Shelf.Ren := ⟨fun | 41 => 22 | n => n, fun | 22 => 26 | 23 => 39 | 4 => 4 | n => n, fun | n => n⟩
theorem Tryd.cloneLc : Go.Proofs.SlLaysE0.n41 Tryd.prog Tryd.cloneLc_ren := {
  mixed := by kernel_rfl
  f41 := ⟨Tryd.f22.name, by decide, Tryd.func22.trans (congrArg some (by kernel_rfl))⟩
  t4 := Tryd.underlying4
  a4 := Tryd.isAgg4
  z4 := Tryd.sizeOf4
  v4 := Tryd.zeroValue4
  t22 := Tryd.underlying26
  a22 := Tryd.isAgg26
  z22 := Tryd.sizeOf26
  v22 := Tryd.zeroValue26 }
end Go.Proofs
namespace Go.Proofs.YtnlkipgjacgddaaDoor
open Go.RowKit Go.Maps Go.Icz Go.ChangeMaps Go.MapKept Go.WideShapes
set_option maxRecDepth 100000 in
theorem cloneLc_is (v : Value) (l : List Lab) (w : World) (hR : RdL w v l) (hlen : l.length * 32 ≤ 140737488355328) :
    Calls Tryd.prog 22 #[v] w fun e w' => ∃ A c, e = .returned (.slice A l.length c) ∧ Below w.heap.size w w' ∧ RdL w' (.slice A l.length c) l ∧ (0 < l.length → ∃ b off, A = some ⟨b, off, none⟩ ∧ w.heap.size ≤ b) := by
  have hR' := hR
  obtain ⟨A, c, rfl, hlc, hcell⟩ := hR'
  rcases A with _ | ad
  · have hl : l = [] := by
      rcases Nat.eq_zero_or_pos l.length with h0 | h0
      · exact List.eq_nil_of_length_eq_zero h0
      · obtain ⟨b, off, e, _⟩ := hcell h0
        cases e
    refine (AnyE.slices_Clone_nil Tryd.cloneLc l.length c w).mono ?_
    rintro e w' ⟨rfl, rfl⟩
    subst hl
    exact ⟨none, 0, rfl, Below.refl _ _, RdL.nil _, fun h => absurd h (by simp)⟩
  · clear hcell
    have q22 : ∀ (w : World) (a : Option Addr) (n c n' c' : Nat), (binOp .eql 26 (.slice a n c) (.slice none n' c')).run Tryd.prog w = .ok (.bool a.isNone) w := fun w a n c n' c' => Lib.run_eql_slice_nil w _ _ a n c n' c' Tryd.underlying26
    have hR2 := fun o => hR.alloc o
    go_enter Tryd.func22, Tryd.ntmps22
    go_wp2_with (at_builtin; refine wp_appL rfl (.tmp 5) (.tmp 6) rfl w.heap.size _ _ [] l rfl (OwnL.made w (Nat.le_refl _)) rfl (hR2 _) (by simpa using hlen) (by simp) ?_; intro v' w1 hown hb hn)
    go_ret
    rw [List.nil_append] at hown
    have hrd := hown.rd
    rcases hown.2 with ⟨rfl, h0⟩ | ⟨g, cap, cur, rfl, hg, _⟩
    · obtain rfl : l = [] := List.eq_nil_of_length_eq_zero h0
      exact ⟨none, 0, rfl, below_allocT (Nat.le_refl _) hb, hrd, fun h => absurd h (by simp)⟩
    · exact ⟨_, cap, rfl, below_allocT (Nat.le_refl _) hb, hrd, fun _ => ⟨g, 0, rfl, hg⟩⟩

theorem rSl_inv {v : Value} {d : DataW Unit} {p : List MemPlace} (h : rSl v = some (d, p)) :
    (v = .slice none 0 0 ∧ d = .nil) ∨ ∃ (b o n c : Nat), v = .slice (some ⟨b, o, none⟩) n c ∧ d = .agg [.lit (.int .i64 b), .lit (.int .i64 o), .lit (.int .i64 n), .lit (.int .i64 c)] := by
  unfold rSl at h
  split at h
  · simp only [Option.some.injEq, Prod.mk.injEq] at h; exact .inl ⟨rfl, h.1.symm⟩
  · rename_i b o n c; simp only [Option.some.injEq, Prod.mk.injEq] at h; exact .inr ⟨b, o, n, c, rfl, h.1.symm⟩
  · cases h
theorem rSl_one {u v : Value} {d : DataW Unit} {p q : List MemPlace} (h : rSl u = some (d, p)) (h2 : rSl v = some (d, q)) : u = v := by
  rcases rSl_inv h with ⟨rfl, rfl⟩ | ⟨b, o, n, c, rfl, rfl⟩
  · rcases rSl_inv h2 with ⟨rfl, _⟩ | ⟨b2, o2, n2, c2, rfl, e⟩
    · rfl
    · cases e
  · rcases rSl_inv h2 with ⟨rfl, e⟩ | ⟨b2, o2, n2, c2, rfl, e⟩
    · cases e
    · simp at e
      obtain ⟨e1, e2, e3, e4⟩ := e
      have f1 : b = b2 := by omega
      have f2 : o = o2 := by omega
      have f3 : n = n2 := by omega
      have f4 : c = c2 := by omega
      subst f1 f2 f3 f4
      rfl
theorem lookL {w : World} {b n : Nat} {D : DataW Unit} {k : Int} {u : Value} {d : DataW Unit} {p : List MemPlace} (hk : (Lit.int .i64 k).wf = true) (hown : w.ownsMap Tryd.prog 3 rSl b n D) (hu : rSl u = some (d, p)) (hx : D.atKey (.int .i64 k) .nil = d) :
    (Instr.lookup 46 (.map (some b)) (.int .i64 k) false).run Tryd.prog w = .ok u w := by
  obtain ⟨v, ps, hrun, hv⟩ := hown.lookup (int_keyed Tryd.underlying3) Tryd.underlying46 (Tryd.zeroValue26 w) (zd := .nil) (zp := []) rfl (keyI hk)
  rw [hx] at hv
  rw [rSl_one hu hv]
  exact hrun
set_option maxRecDepth 100000 in
theorem Labels_yes (v : Value) (k : Int) (b0 b1 n : Nat) (D0 : DataW Unit) (w : World) (hk : (Lit.int .i64 k).wf = true) (h : IdxAt w v b0 b1) (hown : w.ownsMap Tryd.prog 3 rSl b0 n D0) (hhas : Maps.has D0 (.int .i64 k) = true)
    (u : Value) (d : DataW Unit) (p : List MemPlace) (hu : rSl u = some (d, p)) (hx : D0.atKey (.int .i64 k) .nil = d) (l : List Lab) (hR : RdL w u l) (hlen : l.length * 32 ≤ 140737488355328) :
    Calls Tryd.prog 10 #[v, .int .i64 k] w fun e w' => ∃ A c, e = .returned (.tuple #[.slice A l.length c, .int .i64 0]) ∧ Below w.heap.size w w' ∧ RdL w' (.slice A l.length c) l := by
  have hT := there_is v k b0 b1 n D0 w hk h hown
  rw [hhas, if_pos rfl] at hT
  have hLk := lookL hk hown hu hx
  have hC := cloneLc_is u l w hR hlen
  obtain ⟨g, rfl, hg, h0, h1⟩ := h
  clear hown
  go_enter Tryd.func10, Tryd.ntmps10
  go_wp2_with (first
    | (go_at_call 19; refine hT.mono ?_; rintro e w1 ⟨rfl, rfl⟩)
    | (go_at_call 22; refine hC.mono ?_; rintro e w2 ⟨A, c, rfl, b2, r2, _⟩))
  go_ret2
  exact ⟨A, c, rfl, b2, r2⟩
end Go.Proofs.YtnlkipgjacgddaaDoor
