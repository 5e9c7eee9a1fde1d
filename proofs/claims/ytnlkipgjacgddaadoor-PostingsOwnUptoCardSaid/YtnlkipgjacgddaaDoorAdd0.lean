/-
  What Add answers of an Index that New made where it takes nothing. Conditions: sizes as the theorems say.
-/
import Derived.Test.YtnlkipgjacgddaaDoorIdxNew
import Derived.Test.YtnlkipgjacgddaaDoorSetPut
import Derived.Test.YtnlkipgjacgddaaDoorRight
namespace Go.Proofs.YtnlkipgjacgddaaDoor
open Go.RowKit Go.Maps Go.Icz Go.ChangeMaps Go.MapKept Go.WideShapes
set_option maxRecDepth 100000 in
theorem Add_arg_true (v : Value) (k : Int) (u : Value)  (b0 b1 n : Nat) (D0 : DataW Unit) (w : World) (hk : (Lit.int .i64 k).wf = true) (h : IdxAt w v b0 b1) (hown : w.ownsMap Tryd.prog 3 rSl b0 n D0) (hid : ¬ (0 ≤ k ∧ k < 1099511627776)) (hh : Maps.has D0 (.int .i64 k) = true) :
    Calls Tryd.prog 7 #[v, .int .i64 k, u] w fun e w' => (∃ c : Int, e = .returned (.int .i64 c)) ∧ Below w.heap.size w w' := by
  have hT := there_is v k b0 b1 n D0 w hk h hown
  have hI := rightID_is k w
  obtain ⟨g, rfl, hgl, g0, g1⟩ := h
  rw [decide_eq_false hid] at hI
  rw [hh] at hT
  rw [if_pos rfl] at hT
  go_enter Tryd.func7, Tryd.ntmps7
  go_wp2_with (first
    | (go_at_call 19; refine hT.mono ?_; rintro e w1 ⟨rfl, rfl⟩)
    | (go_at_call 20; refine hI.mono ?_; rintro e w1 ⟨rfl, rfl⟩)
    | fail)
  go_ret
  exact ⟨⟨_, rfl⟩, Below.refl _ _⟩
set_option maxRecDepth 100000 in
theorem Add_arg_false (v : Value) (k : Int) (u : Value)  (b0 b1 n : Nat) (D0 : DataW Unit) (w : World) (hk : (Lit.int .i64 k).wf = true) (h : IdxAt w v b0 b1) (hown : w.ownsMap Tryd.prog 3 rSl b0 n D0) (hid : ¬ (0 ≤ k ∧ k < 1099511627776)) (hh : Maps.has D0 (.int .i64 k) = false) :
    Calls Tryd.prog 7 #[v, .int .i64 k, u] w fun e w' => (∃ c : Int, e = .returned (.int .i64 c)) ∧ Below w.heap.size w w' := by
  have hT := there_is v k b0 b1 n D0 w hk h hown
  have hI := rightID_is k w
  obtain ⟨g, rfl, hgl, g0, g1⟩ := h
  rw [decide_eq_false hid] at hI
  rw [hh] at hT
  rw [if_neg (by simp)] at hT
  go_enter Tryd.func7, Tryd.ntmps7
  go_wp2_with (first
    | (go_at_call 19; refine hT.mono ?_; rintro e w1 ⟨rfl, rfl⟩)
    | (go_at_call 20; refine hI.mono ?_; rintro e w1 ⟨rfl, rfl⟩)
    | fail)
  go_ret
  exact ⟨⟨_, rfl⟩, Below.refl _ _⟩
set_option maxRecDepth 100000 in
theorem Add_label_true (v : Value) (k : Int) (u : Value) (l : List Lab) (b0 b1 n : Nat) (D0 : DataW Unit) (w : World) (hk : (Lit.int .i64 k).wf = true) (h : IdxAt w v b0 b1) (hown : w.ownsMap Tryd.prog 3 rSl b0 n D0) (hid : 0 ≤ k ∧ k < 1099511627776) (hR : RdL w u l) (hTb : Tabs w) (hsz : ∀ x ∈ l, x.1.length ≤ 9223372036854775807 ∧ x.2.length ≤ 9223372036854775807) (hh : Maps.has D0 (.int .i64 k) = true) (hg : rightS l = false) :
    Calls Tryd.prog 7 #[v, .int .i64 k, u] w fun e w' => (∃ c : Int, e = .returned (.int .i64 c)) ∧ Below w.heap.size w w' := by
  have hT := there_is v k b0 b1 n D0 w hk h hown
  have hI := rightID_is k w
  obtain ⟨g, rfl, hgl, g0, g1⟩ := h
  rw [decide_eq_true hid] at hI
  have hG := Right_is u l w hR hTb hsz
  rw [hg] at hG
  rw [hh] at hT
  rw [if_pos rfl] at hT
  go_enter Tryd.func7, Tryd.ntmps7
  go_wp2_with (first
    | (go_at_call 19; refine hT.mono ?_; rintro e w1 ⟨rfl, rfl⟩)
    | (go_at_call 20; refine hI.mono ?_; rintro e w1 ⟨rfl, rfl⟩)
    | (go_at_call 21; refine hG.mono ?_; rintro e w2 ⟨rfl, b2⟩)
    | fail)
  go_ret
  exact ⟨⟨_, rfl⟩, b2⟩
set_option maxRecDepth 100000 in
theorem Add_label_false (v : Value) (k : Int) (u : Value) (l : List Lab) (b0 b1 n : Nat) (D0 : DataW Unit) (w : World) (hk : (Lit.int .i64 k).wf = true) (h : IdxAt w v b0 b1) (hown : w.ownsMap Tryd.prog 3 rSl b0 n D0) (hid : 0 ≤ k ∧ k < 1099511627776) (hR : RdL w u l) (hTb : Tabs w) (hsz : ∀ x ∈ l, x.1.length ≤ 9223372036854775807 ∧ x.2.length ≤ 9223372036854775807) (hh : Maps.has D0 (.int .i64 k) = false) (hg : rightS l = false) :
    Calls Tryd.prog 7 #[v, .int .i64 k, u] w fun e w' => (∃ c : Int, e = .returned (.int .i64 c)) ∧ Below w.heap.size w w' := by
  have hT := there_is v k b0 b1 n D0 w hk h hown
  have hI := rightID_is k w
  obtain ⟨g, rfl, hgl, g0, g1⟩ := h
  rw [decide_eq_true hid] at hI
  have hG := Right_is u l w hR hTb hsz
  rw [hg] at hG
  rw [hh] at hT
  rw [if_neg (by simp)] at hT
  go_enter Tryd.func7, Tryd.ntmps7
  go_wp2_with (first
    | (go_at_call 19; refine hT.mono ?_; rintro e w1 ⟨rfl, rfl⟩)
    | (go_at_call 20; refine hI.mono ?_; rintro e w1 ⟨rfl, rfl⟩)
    | (go_at_call 21; refine hG.mono ?_; rintro e w2 ⟨rfl, b2⟩)
    | fail)
  go_ret
  exact ⟨⟨_, rfl⟩, b2⟩
set_option maxRecDepth 100000 in
theorem Add_there (v : Value) (k : Int) (u : Value) (l : List Lab) (b0 b1 n : Nat) (D0 : DataW Unit) (w : World) (hk : (Lit.int .i64 k).wf = true) (h : IdxAt w v b0 b1) (hown : w.ownsMap Tryd.prog 3 rSl b0 n D0) (hid : 0 ≤ k ∧ k < 1099511627776) (hR : RdL w u l) (hTb : Tabs w) (hsz : ∀ x ∈ l, x.1.length ≤ 9223372036854775807 ∧ x.2.length ≤ 9223372036854775807) (hh : Maps.has D0 (.int .i64 k) = true) (hg : rightS l = true) :
    Calls Tryd.prog 7 #[v, .int .i64 k, u] w fun e w' => (∃ c : Int, e = .returned (.int .i64 c)) ∧ Below w.heap.size w w' := by
  have hT := there_is v k b0 b1 n D0 w hk h hown
  have hI := rightID_is k w
  obtain ⟨g, rfl, hgl, g0, g1⟩ := h
  rw [decide_eq_true hid] at hI
  have hG := Right_is u l w hR hTb hsz
  rw [hg] at hG
  rw [hh] at hT
  rw [if_pos rfl] at hT
  go_enter Tryd.func7, Tryd.ntmps7
  go_wp2_with (first
    | (go_at_call 19; refine hT.mono ?_; rintro e w1 ⟨rfl, rfl⟩)
    | (go_at_call 20; refine hI.mono ?_; rintro e w1 ⟨rfl, rfl⟩)
    | (go_at_call 21; refine hG.mono ?_; rintro e w2 ⟨rfl, b2⟩)
    | fail)
  go_ret
  exact ⟨⟨_, rfl⟩, b2⟩
set_option maxRecDepth 100000 in
theorem Add_full (v : Value) (k : Int) (u : Value) (l : List Lab) (b0 b1 n : Nat) (D0 : DataW Unit) (w : World) (hk : (Lit.int .i64 k).wf = true) (h : IdxAt w v b0 b1) (hown : w.ownsMap Tryd.prog 3 rSl b0 n D0) (hid : 0 ≤ k ∧ k < 1099511627776) (hR : RdL w u l) (hTb : Tabs w) (hsz : ∀ x ∈ l, x.1.length ≤ 9223372036854775807 ∧ x.2.length ≤ 9223372036854775807) (hh : Maps.has D0 (.int .i64 k) = false) (hg : rightS l = true) (hf : 65536 ≤ Maps.size D0) :
    Calls Tryd.prog 7 #[v, .int .i64 k, u] w fun e w' => (∃ c : Int, e = .returned (.int .i64 c)) ∧ Below w.heap.size w w' := by
  have hT := there_is v k b0 b1 n D0 w hk h hown
  have hI := rightID_is k w
  obtain ⟨g, rfl, hgl, g0, g1⟩ := h
  rw [decide_eq_true hid] at hI
  have hG := Right_is u l w hR hTb hsz
  rw [hg] at hG
  rw [hh] at hT
  rw [if_neg (by simp)] at hT
  have hf2 : ((65536 : Int) ≤ (Maps.size D0 : Int)) := by omega
  go_enter Tryd.func7, Tryd.ntmps7
  go_wp2_with (first
    | (go_at_call 19; refine hT.mono ?_; rintro e w1 ⟨rfl, rfl⟩)
    | (go_at_call 20; refine hI.mono ?_; rintro e w1 ⟨rfl, rfl⟩)
    | (go_at_call 21; refine hG.mono ?_; rintro e w2 ⟨rfl, b2⟩; have hLn := fun ty => (ownsMap_below hown b2).len Tryd.underlying46 ty; have q0 := (b2.cell (p := ⟨g, 0, none⟩) hgl).trans g0)
    | fail)
  go_ret
  exact ⟨⟨_, rfl⟩, b2⟩
end Go.Proofs.YtnlkipgjacgddaaDoor
