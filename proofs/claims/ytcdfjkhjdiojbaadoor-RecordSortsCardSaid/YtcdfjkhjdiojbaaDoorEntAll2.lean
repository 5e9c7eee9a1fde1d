/-
  What the law's All answers, and a list of entries that came in, opened. Conditions: the entries can be read; sizes as each theorem names.
-/
import Derived.Test.YtcdfjkhjdiojbaaDoorEntAll
import Derived.Deep.Slices
namespace Go.Proofs.YtcdfjkhjdiojbaaDoor
open Go.RowKit Go.Icz
/-- It answers a list that reads as l, in new memory. -/
def AllOut (l : List Ent) (w : World) (e : Ending) (w' : World) : Prop := ∃ v, e = .returned v ∧ RdE w' v l ∧ Below w.heap.size w w'
set_option maxHeartbeats 4000000 in
set_option maxRecDepth 100000 in
theorem EAll_is (v : Value) (l : List Ent) (w : World) (hR : RdE w v l) (hz : ∀ x ∈ l, entZ x) (hlen : l.length * 56 ≤ 140737488351232) :
    Calls Tryd.prog 6 #[v] w (AllOut l w) := by
  obtain ⟨A, c, rfl, hlc, hcell⟩ := hR
  go_enter Tryd.func6, Tryd.ntmps6
  go_wp2
  go_loopw [3, 4] (fun ov iv wr => ∃ (i : Nat) (m : List (Ent × Value)), iv = .int .i64 i ∧ i ≤ l.length ∧ OwnE wr w.heap.size ov m ∧ Hid (m.map (·.1) = l.take i ∧ m.length = i) ∧ Below w.heap.size w wr) (fun _ iv _ => l.length - (intOf iv).toNat)
  case atStart => exact ⟨0, [], rfl, by omega, OwnE.nil _ _, hid ⟨by simp, rfl⟩, Below.refl _ _⟩
  case round =>
    obtain ⟨i, m, rfl, hi, ho, HM, hbw⟩ := hrel
    by_cases hlt : i < l.length
    · obtain ⟨b, off, rfl, hb, hcell⟩ := hcell (by omega)
      obtain ⟨A', c', q0, q1, q2, q3, rl⟩ := hcell i hlt
      have q0 := (hbw.cell (p := ⟨b, off + i * 4, none⟩) hb).trans q0
      have q1 := (hbw.cell (p := ⟨b, off + i * 4 + 1, none⟩) hb).trans q1
      have q2 := (hbw.cell (p := ⟨b, off + i * 4 + 2, none⟩) hb).trans q2
      have q3 := (hbw.cell (p := ⟨b, off + i * 4 + 3, none⟩) hb).trans q3
      have rl := rl.below hbw
      have hxz := hz l[i] (List.getElem_mem hlt)
      have HT : Hid (l.take (i + 1) = l.take i ++ [l[i]]) := hid (List.take_succ_eq_append_getElem hlt)
      have hml : (m.length + 1) * 56 ≤ 140737488355328 := by have := HM.out.2; omega
      clear hcell hz
      generalize l[i] = x at *
      have hO := EOwn_is x A' c' wr rl hxz.1
      clear hxz rl
      unfold EntOut entV at hO
      have hwz := hbw.size
      go_wp2_with (first
        | (go_at_call 24; refine hO.mono ?_; rintro e w1 ⟨A1, c1, rfl, ol, b1⟩; have o1 := ho.below b1; have ol1 := ol.mono hwz; have bw1 := hbw.trans (b1.mono hwz); have z1 := Nat.le_trans hwz b1.size; clear hO ho ol)
        | (at_builtin; go_loud (refine wp_appE rfl (.tmp 11) (.tmp 17) rfl w.heap.size _ m (x, .slice A1 x.labs.length c1) A1 c1 rfl rfl o1 ol1 rfl hml z1 ?_; intro v5 w5 o5 b5)))
      go_roundw
      case rel => exact ⟨i + 1, m ++ [(x, .slice A1 x.labs.length c1)], by go_num, by omega, o5, hid ⟨by rw [List.map_append, HM.out.1, HT.out]; rfl, by rw [List.length_append, HM.out.2]; rfl⟩, bw1.trans (below_alloc z1 b5)⟩
      case measure => simp [intOf]; omega
    · have him : i = l.length := by omega
      have HM2 : Hid (m.map (·.1) = l) := hid (by rw [HM.out.1, him, List.take_length])
      clear hcell HM hlt
      go_wp2
      go_ret
      exact ⟨_, rfl, by have h := ho.rd; rw [HM2.out] at h; exact h, hbw⟩
end Go.Proofs.YtcdfjkhjdiojbaaDoor
