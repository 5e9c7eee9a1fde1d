/-
  matcher.Print. Conditions: those that each theorem names.
-/
import Derived.Test.YtlhodanpfpfodaaGreatDoorMBack
import Derived.Test.YtlhodanpfpfodaaGreatDoorWrd
import Derived.Shelf.Strings.OnBuilder
import Derived.Deep.RegionHeld3
import Derived.Lib.ItoaLen
namespace Go.Icz
open Go.RowKit
namespace Kd
variable {α : Type} {K : Kd α}
/-- 'append(v, x, y ..)', elements laid in a block of their own. -/
theorem wp_appm {P : Program} {ops : Array Oper} {rest : List Oper} {o : Oper} {a : Act} {Q : Exit → Act → World → Prop} {w : World} (hgd : o.guard = none) (s x : Operand) (t : TypeId)
    (ho : o.op = .call { callee := .builtin .append, args := #[s, x], argTypes := #[t, t] }) (ht : P.underlying t = some (.slice K.e)) {zv : Value} {by' : Nat} (info : (P.info? K.e).map (fun i => (i.zero, i.size, i.bytes)) = some (some zv, K.z, by')) (hzs : zv.cells.size = K.z)
    (B : Nat) (v : Value) (l m : List α) (hs : a.eval s = v) (hown : K.Own w B v l) {n k : Nat} (hn : w.heap.size = n) (hk : m.length = k) (hm : m ≠ []) (hx : a.eval x = .slice (some ⟨n, 0, none⟩) k k) {cs : Array Value} (hcs : cs = (K.cells m).toArray)
    (hmax : l.length + k ≤ maxLen) (hlen : (l.length + k) * by' ≤ 140737488355328) (hB : B ≤ w.heap.size)
    (h : ∀ v' w', K.Own w' B v' (l ++ m) → Below B w w' → (w.alloc (.cells cs K.e)).grownBy w' v.ownBlock → v' ≠ .slice none 0 0 → wpList P ops Q rest (a.put o.dst v') w') :
    wpList P ops Q (o :: rest) a (w.alloc (.cells cs K.e)) := by
  subst hn hcs hk
  have r := (Own.lit (K := K) (B := w.heap.size) w m (by omega) (Nat.le_refl _)).rd
  refine wp_app hgd s x t ho ht info hzs B v _ l m hs (hown.alloc _) hx r hmax hlen (by simp; omega) ?_
  intro v' w' h1 h2 h3 h4
  exact h v' w' h1 (((Below.refl B w).alloc hB _).trans h2) h3 (h4 hm)
/-- The same at a step of a region that draws its order. -/
theorem step_appm {P : Program} {ops : Array Oper} {o : Oper} {a : Act} {Kn : Act → World → Prop} {Q : Exit → Act → World → Prop} {E : Prop} {w : World} (hgd : o.guard = none) (s x : Operand) (t : TypeId)
    (ho : o.op = .call { callee := .builtin .append, args := #[s, x], argTypes := #[t, t] }) (ht : P.underlying t = some (.slice K.e)) {zv : Value} {by' : Nat} (info : (P.info? K.e).map (fun i => (i.zero, i.size, i.bytes)) = some (some zv, K.z, by')) (hzs : zv.cells.size = K.z)
    (B : Nat) (v : Value) (l m : List α) (hs : a.eval s = v) (hown : K.Own w B v l) (n k : Nat) (hk : m.length = k) (hm : 0 < k) (hblk : w.heap[n]? = some (.cells (K.cells m).toArray K.e (0, 0))) (hx : a.eval x = .slice (some ⟨n, 0, none⟩) k k)
    (hmax : l.length + k ≤ maxLen) (hlen : (l.length + k) * by' ≤ 140737488355328) (hB : B ≤ w.heap.size)
    (h : ∀ v' w', K.Own w' B v' (l ++ m) → Below B w w' → w.grownBy w' v.ownBlock → Kn (a.put o.dst v') w') :
    if Region.wanted o (yielded ops a.tmps) = true then Oper.wp P o a w Kn Q else E := by
  subst hk
  obtain ⟨i0, hi, hz0, hz1, hz2⟩ := info_parts info
  refine step_append_lies w hgd s x t ho B K.e i0 zv K.z by' ht hi hz0 hz1 hz2 hzs K.pos v l.length (K.cells l) hs hown ⟨n, 0, none⟩ m.length m.length (K.cells m) hx ?_ ?_ ?_ hm hmax hlen hB _ rfl ?_
  · rw [cells_len]
  · exact World.news_of_block hblk
  · exact fun u hu => cells_one K m u hu
  · intro g cap w' h1 h2 h3 h4
    refine h _ w' ?_ ((Below.refl B w).grown h2 hB (fun k hk => (World.ownsRow.lt hown k hk).1)) h2
    unfold Own
    rw [cells_app, List.length_append]
    exact h1
end Kd
end Go.Icz
namespace Go.Proofs.YtlhodanpfpfodaaGreatDoor
open Go.RowKit Go.Icz
def KStr : Kd B8 := { e := 9, z := 1, enc := fun s => [.string ⟨s.toArray⟩], len := fun _ => rfl, pos := by decide, one := fun s u hu => (by rw [List.mem_singleton] at hu; rw [hu]; rfl) }
theorem infoStr : (Tryz.prog.info? KStr.e).map (fun i => (i.zero, i.size, i.bytes)) = some (some (.string ⟨#[]⟩), KStr.z, 16) := by kernel_rfl
theorem jExtra : Builder.Extra Tryz.prog Tryz.lays156_ren := {
  sizeBuilder := by kernel_rfl
  liesBuilder := by kernel_rfl
  t5 := Tryz.underlying5
  a5 := Tryz.isAgg5
  z5 := Tryz.sizeOf5
  v5 := Tryz.zeroValue5
  infoByte := by kernel_rfl
  cellsByte := by kernel_rfl
  sizeByte := by kernel_rfl
  neB5 := by decide }
theorem join_le (sep : B8) (N : Nat) : ∀ l : List B8, (∀ s ∈ l, s.length ≤ N) → (Lib.join l sep).length ≤ l.length * (N + sep.length)
  | [], _ => by simp [Lib.join_nil]
  | x :: r, h => by
    rw [Lib.join_cons, List.length_append]
    have h1 := h x (by simp)
    have h2 : ∀ r : List B8, (∀ s ∈ r, s.length ≤ N) → (Lib.joinTail sep r).length ≤ r.length * (N + sep.length) := by
      intro r
      induction r with
      | nil => intro _; simp [Lib.joinTail]
      | cons y t ih =>
        intro h
        have h3 := ih fun s hs => h s (by simp [hs])
        have h4 := h y (by simp)
        unfold Lib.joinTail at *
        rw [List.map_cons, List.flatten_cons, List.length_append, List.length_append, List.length_cons, Nat.add_mul]
        omega
    have h3 := h2 r fun s hs => h s (by simp [hs])
    rw [List.length_cons, Nat.add_mul]
    omega
theorem joinL_is (v : Value) (l : List B8) (sep : B8) (w : World) (h : KStr.Rd w v l) (hl : l.length ≤ 1000) (hz : (Lib.join l sep).length ≤ 1000000000) :
    Calls Tryz.prog 63 #[v, .string ⟨sep.toArray⟩] w fun e w' => e = .returned (.string ⟨(Lib.join l sep).toArray⟩) ∧ Below w.heap.size w w' := by
  obtain ⟨A, c, rfl, hc, hcell⟩ := h
  rcases Nat.eq_zero_or_pos l.length with h0 | h0
  · have := List.eq_nil_of_length_eq_zero h0
    subst this
    exact (Any.strings_Join_none Tryz.lays156 jExtra A c ⟨sep.toArray⟩ w).mono fun e w' ⟨he, hw⟩ => ⟨he, hw ▸ Below.refl _ _⟩
  · obtain ⟨b, off, rfl, hb, hc2⟩ := hcell h0
    have em : (l.map fun s => (⟨s.toArray⟩ : ByteArray)).map (·.data.toList) = l := by
      rw [List.map_map]
      have : ((fun x : ByteArray => x.data.toList) ∘ fun s : B8 => (⟨s.toArray⟩ : ByteArray)) = id := rfl
      rw [this, List.map_id]
    have := Any.strings_Join Tryz.lays156 jExtra b off c (l.map fun s => ⟨s.toArray⟩) ⟨sep.toArray⟩ w (fun j x hj => by
      rw [List.getElem?_map] at hj
      cases hx : l[j]? with
      | none => rw [hx] at hj; cases hj
      | some s =>
        rw [hx] at hj
        injection hj with hj
        subst hj
        obtain ⟨hjl, hje⟩ := List.getElem?_eq_some_iff.1 hx
        refine hc2 j _ ?_
        have e := KStr.cells_get l j hjl 0 (by decide)
        have e2 : j * KStr.z + 0 = j := by show j * 1 + 0 = j; omega
        rw [e2, hje] at e
        exact e) hb (by rw [List.length_map]; omega) (by rw [List.length_map]; exact hc) (by rw [em]; exact Nat.le_trans hz (by omega))
    rw [List.length_map, em] at this
    exact this
/-- The words of a query's text, as far as the numbers up to the i-th. -/
def nwS (q : Qy) : Nat → List B8
  | 0 => if q.fr = 0 then [] else [[102, 114, 111, 109], Lib.itoa q.fr]
  | 1 => if q.upto = 1099511627776 then [] else [[116, 111], Lib.itoa q.upto]
  | _ => if q.lim = 0 then [] else [[108, 105, 109, 105, 116], Lib.itoa q.lim]
def upS (q : Qy) : Nat → List B8
  | 0 => [123 :: (Lib.join (q.ms.map mtS) [44, 32] ++ [125])] ++ (if q.has = [] then [] else [[104, 97, 115], quoteS q.has])
  | i + 1 => upS q i ++ nwS q i
theorem upS_words (q : Qy) : wordsT q = upS q 3 ++ (if q.newest = true then [[110, 101, 119, 101, 115, 116]] else []) := rfl
theorem upS_len (q : Qy) : ∀ i, (upS q i).length ≤ 3 + 2 * i
  | 0 => by
    unfold upS
    split <;> simp
  | i + 1 => by
    have := upS_len q i
    have h2 : (nwS q i).length ≤ 2 := by unfold nwS; split <;> split <;> simp
    unfold upS
    rw [List.length_append]
    omega
/-- The i-th number word's cells: its name, where its number stands in the query's block, what it is without the word, its number. -/
theorem nw_at (q : Qy) (b i : Nat) (hi : i < 3) : ∃ (nm : B8) (k : Nat) (d v : Int), nm.length ≤ 5 ∧ 2 ≤ k ∧ k ≤ 4 ∧
    (nwCells b)[i * 3]? = some (.string ⟨nm.toArray⟩) ∧ (nwCells b)[i * 3 + 1]? = some (.pointer (some ⟨b, k, none⟩)) ∧ (nwCells b)[i * 3 + 2]? = some (.int .i64 d) ∧
    (∀ mv : Value, (#[mv, .string ⟨q.has.toArray⟩, .int .i64 q.fr, .int .i64 q.upto, .int .i64 q.lim, .bool q.newest] : Array Value)[k]? = some (.int .i64 v)) ∧ nwS q i = (if v = d then [] else [nm, Lib.itoa v]) ∧ (rightQ q = true → 0 ≤ v ∧ v ≤ 1099511627776) := by
  have hr : rightQ q = true → 0 ≤ q.fr ∧ q.fr ≤ q.upto ∧ q.upto ≤ 1099511627776 ∧ 0 ≤ q.lim ∧ q.lim ≤ 10000 := by
    intro h
    simp only [rightQ, timesQ, Bool.and_eq_true, decide_eq_true_eq] at h
    exact ⟨h.1.2.1, h.1.2.2.1, h.1.2.2.2, h.2⟩
  rcases (by omega : i = 0 ∨ i = 1 ∨ i = 2) with rfl | rfl | rfl
  · exact ⟨[102, 114, 111, 109], 2, 0, q.fr, by decide, by decide, by decide, rfl, rfl, rfl, fun _ => rfl, rfl, fun h => by have := hr h; omega⟩
  · exact ⟨[116, 111], 3, 1099511627776, q.upto, by decide, by decide, by decide, rfl, rfl, rfl, fun _ => rfl, rfl, fun h => by have := hr h; omega⟩
  · exact ⟨[108, 105, 109, 105, 116], 4, 0, q.lim, by decide, by decide, by decide, rfl, rfl, rfl, fun _ => rfl, rfl, fun h => by have := hr h; omega⟩
theorem right_facts {q : Qy} (h : rightQ q = true) : q.ms.length ≤ 8 ∧ q.has.length ≤ 1024 ∧ ∀ m ∈ q.ms, (1 ≤ m.op ∧ m.op ≤ 4) ∧ m.name.length ≤ 64 ∧ m.val.length ≤ 128 := by
  simp only [rightQ, textS, Bool.and_eq_true, decide_eq_true_eq] at h
  refine ⟨h.1.1.1.1, h.1.1.1.2.1, fun m hm => ?_⟩
  have := List.all_eq_true.1 h.1.1.2 m hm
  simp only [okM, nameS, textS, Bool.and_eq_true, decide_eq_true_eq] at this
  exact ⟨this.1.1, this.1.2.1.2, this.2.1⟩
theorem str3 (J : B8) : (⟨#[123]⟩ ++ ⟨J.toArray⟩ ++ ⟨#[125]⟩ : ByteArray) = ⟨(123 :: (J ++ [125])).toArray⟩ := by
  apply ByteArray.ext
  simp
theorem own_ne {w : World} {B n : Nat} {v : Value} {l : List B8} {cs : Array Value} {t : TypeId} {z : Nat × Nat} (h : KStr.Own w B v l) (hb : w.heap[n]? = some (.cells cs t z)) (ht : t ≠ 9) : some n ≠ v.ownBlock := by
  rcases h.2 with ⟨hv, _⟩ | ⟨g, cap, cur, hv, _, hh, _⟩
  · rw [hv]; intro e; cases e
  · rw [hv]
    intro e
    injection e with e
    subst e
    rw [hb] at hh
    injection hh with hh
    injection hh with _ h2 _
    exact ht h2
theorem mtS_len {m : Mt} (h : (1 ≤ m.op ∧ m.op ≤ 4) ∧ m.name.length ≤ 64 ∧ m.val.length ≤ 128) : (mtS m).length ≤ 836 := by
  have h1 := quoteS_len m.val
  have h2 : (signB m.op.toNat).length ≤ 2 := by
    unfold signB
    split <;> simp
  unfold mtS
  rw [List.length_append, List.length_append]
  omega
theorem itoa_le {v : Int} (h0 : 0 ≤ v) (h1 : v ≤ 1099511627776) : (Lib.itoa v).length ≤ 21 := Lib.itoa_length_le v (by omega) (by omega)
theorem upS_le {q : Qy} (hr : rightQ q = true) : ∀ i, ∀ s ∈ upS q i, s.length ≤ 8100
  | 0, s, hs => by
    obtain ⟨h8, hhas, hok⟩ := right_facts hr
    unfold upS at hs
    rcases List.mem_append.1 hs with h1 | h1
    · rw [List.mem_singleton] at h1
      rw [h1]
      have := join_le [44, 32] 836 (q.ms.map mtS) (fun s hs => by
        obtain ⟨m, hm, rfl⟩ := List.mem_map.1 hs
        exact mtS_len (hok m hm))
      rw [List.length_map] at this
      have h2 : q.ms.length * (836 + ([44, 32] : B8).length) ≤ 8 * 838 := Nat.mul_le_mul_right 838 h8
      rw [List.length_cons, List.length_append]
      show _ + 1 + 1 ≤ _
      omega
    · split at h1
      · simp at h1
      · have := quoteS_len q.has
        simp only [List.mem_cons, List.not_mem_nil, or_false] at h1
        rcases h1 with rfl | rfl
        · decide
        · omega
  | i + 1, s, hs => by
    unfold upS at hs
    rcases List.mem_append.1 hs with h1 | h1
    · exact upS_le hr i s h1
    · have hr' := hr
      simp only [rightQ, timesQ, Bool.and_eq_true, decide_eq_true_eq] at hr'
      have z1 := itoa_le (v := q.fr) (by omega) (by omega)
      have z2 := itoa_le (v := q.upto) (by omega) (by omega)
      have z3 := itoa_le (v := q.lim) (by omega) (by omega)
      unfold nwS at h1
      split at h1 <;> split at h1
      all_goals first
        | (simp at h1; done)
        | (simp only [List.mem_cons, List.not_mem_nil, or_false] at h1
           rcases h1 with rfl | rfl
           · decide
           · omega)
set_option maxHeartbeats 8000000 in
set_option maxRecDepth 100000 in
theorem MPrint_is (mv : Value) (q : Qy) (w : World) (hR : KM.Rd w mv q.ms) (hm : q.ms.length ≤ 4611686018427387904) (hz : ∀ m ∈ q.ms, m.name.length ≤ 9223372036854775807 ∧ m.val.length ≤ 9223372036854775807) (hh : q.has.length ≤ 9223372036854775807) (hT : TabsM w) (h9 : 9 ≤ w.heap.size) :
    Calls Tryz.prog 27 #[qryV mv q] w fun e w' => e = .returned (.string ⟨(printQ q).toArray⟩) ∧ Below w.heap.size w w' := by
  have hbx : ∀ o, Below w.heap.size w (w.alloc o) := fun o => (Below.refl _ w).alloc (Nat.le_refl _) o
  have hRt := fun o => MRight_is mv q (w.alloc o) (hR.alloc o) hm hz hh (hT.tabs.below (hbx o))
  obtain ⟨A, c, rfl, hc⟩ := hR.form
  unfold qryV at *
  cases hr : rightQ q with
  | false =>
    have HP : Hid (printQ q = []) := hid (by unfold printQ; rw [hr]; rfl)
    rw [hr] at hRt
    go_enter Tryz.func27, Tryz.ntmps27
    go_wp2_with (go_at_call 25; refine (hRt _).mono ?_; rintro e w1 ⟨rfl, b1⟩)
    go_ret
    rw [HP.out]
    exact ⟨rfl, below_alloc (Nat.le_refl _) (b1.mono (by simp))⟩
  | true =>
    have HP : Hid (printQ q = Lib.join (upS q 3 ++ (if q.newest = true then [[110, 101, 119, 101, 115, 116]] else [])) [32]) := hid (by unfold printQ; rw [if_pos hr, ← join_words, upS_words])
    have HR := hid hr
    have rf := right_facts hr
    obtain ⟨h8, hhas, hok⟩ := rf
    rw [hr] at hRt
    clear hr hm hz hh
    go_enter Tryz.func27, Tryz.ntmps27
    go_wp2_with (go_at_call 25; refine (hRt _).mono ?_; rintro e w1 ⟨rfl, b1⟩; clear hRt; have qb := (b1.block w.heap.size (by simp)).trans (heap_alloc_new w _); have bw1 := below_alloc (Nat.le_refl _) (b1.mono (by simp : w.heap.size ≤ _)); have zq := (Array.getElem?_eq_some_iff.1 qb).1; have q0 : w1.cell? ⟨w.heap.size, 0, none⟩ = some (.slice A q.ms.length c) := held_cell qb rfl)
    go_loopw [3, 15] (fun vv iv wr => ∃ (i : Nat), iv = .int .i64 i ∧ i ≤ q.ms.length ∧ KStr.Own wr w1.heap.size vv ((q.ms.take i).map mtS) ∧ Below w1.heap.size w1 wr) (fun _ iv _ => q.ms.length - (intOf iv).toNat)
    case atStart => exact ⟨0, rfl, by omega, by rw [List.take_zero]; exact Kd.Own.nil _ _, Below.refl _ _⟩
    case round =>
      obtain ⟨i, rfl, hi, hown, hbw⟩ := hrel
      have bb : Below w.heap.size w wr := bw1.trans (hbw.mono bw1.size)
      by_cases hlt : i < q.ms.length
      · obtain ⟨b, off, rfl, hb, c0, c1, c2⟩ := KM_at hR hlt
        rw [← bb.cell (p := ⟨b, off + i * 3, none⟩) hb] at c0
        rw [← bb.cell (p := ⟨b, off + i * 3 + 1, none⟩) hb] at c1
        rw [← bb.cell (p := ⟨b, off + i * 3 + 2, none⟩) hb] at c2
        have hx := hok q.ms[i] (List.getElem_mem hlt)
        have HT : Hid ((q.ms.take (i + 1)).map mtS = (q.ms.take i).map mtS ++ [mtS q.ms[i]]) := hid (by rw [List.take_add_one, List.getElem?_eq_getElem hlt]; simp only [Option.toList_some, List.map_append, List.map_cons, List.map_nil])
        have hTw := hT.below bb
        clear hok HP hR qb q0
        generalize q.ms[i] = x at *
        obtain ⟨nm, op, vl⟩ := x
        simp only [] at hx c0 c1 c2
        obtain ⟨k, rfl⟩ : ∃ k : Nat, op = (k : Int) := ⟨op.toNat, by omega⟩
        have HT2 : Hid ((q.ms.take (i + 1)).map mtS = (q.ms.take i).map mtS ++ [nm ++ signB k ++ quoteS vl]) := hid (by rw [HT.out]; simp [mtS])
        clear HT
        have hsg := hTw.sig k (by omega)
        have hsl : (signB k).length ≤ 2 := by
          unfold signB
          split <;> simp
        have hql := quoteS_len vl
        have hQ := fun w' hT' => Quote_is ⟨vl.toArray⟩ w' (by rw [Lib.size_mk]; omega) hT'
        simp only [] at hQ
        generalize signB k = sg at *
        generalize quoteS vl = qt at *
        have hwl := hown.lt
        have h1z := bw1.size
        have hwz := hbw.size
        go_wp2
        have hb5 := heap_alloc_new wr (.cells #[.string ⟨nm.toArray⟩, .int .i64 k, .string ⟨vl.toArray⟩] 57)
        have mkS : ∀ w' : World, Below w1.heap.size wr w' → (∀ j, j < wr.heap.size + 1 → some j ≠ u3.ownBlock → w'.heap[j]? = (wr.alloc (.cells #[.string ⟨nm.toArray⟩, .int .i64 k, .string ⟨vl.toArray⟩] 57)).heap[j]?) → (Below w1.heap.size wr w' ∧ ∀ j, j < wr.heap.size + 1 → some j ≠ u3.ownBlock → w'.heap[j]? = (wr.alloc (.cells #[.string ⟨nm.toArray⟩, .int .i64 k, .string ⟨vl.toArray⟩] 57)).heap[j]?) ∧ w'.cell? ⟨wr.heap.size, 0, none⟩ = some (.string ⟨nm.toArray⟩) ∧ w'.cell? ⟨wr.heap.size, 1, none⟩ = some (.int .i64 k) ∧ w'.cell? ⟨wr.heap.size, 2, none⟩ = some (.string ⟨vl.toArray⟩) ∧ w'.cell? ⟨0, k, none⟩ = some (.string ⟨sg.toArray⟩) := fun w' hb hj => by
          have e5 := (hj wr.heap.size (by omega) (fun e => by have := hwl _ e.symm; omega)).trans hb5
          refine ⟨⟨hb, hj⟩, held_cell e5 rfl, held_cell e5 rfl, held_cell e5 rfl, ?_⟩
          exact (hb.cell (p := ⟨0, k, none⟩) (by show 0 < _; omega)).trans hsg
        have hk := mkS (wr.alloc (.cells #[.string ⟨nm.toArray⟩, .int .i64 k, .string ⟨vl.toArray⟩] 57)).drew (((Below.refl _ wr).alloc hwz _).drew) (fun j _ _ => rfl)
        have own0 : KStr.Own (wr.alloc (.cells #[.string ⟨nm.toArray⟩, .int .i64 k, .string ⟨vl.toArray⟩] 57)).drew w1.heap.size u3 ((q.ms.take i).map mtS) := hown.alloc _
        have hTd : TabsM (wr.alloc (.cells #[.string ⟨nm.toArray⟩, .int .i64 k, .string ⟨vl.toArray⟩] 57)).drew := hTw.below (((Below.refl _ wr).alloc (Nat.le_refl _) _).drew)
        have kx1 : (k : Int) < 5 := by omega
        have v1 : ¬ 9223372036854775807 < nm.length + sg.length := by omega
        have v2 : ¬ 9223372036854775807 < nm.length + sg.length + qt.length := by omega
        go_region_held3 (fun w' => (Below w1.heap.size wr w' ∧ ∀ j, j < wr.heap.size + 1 → some j ≠ u3.ownBlock → w'.heap[j]? = (wr.alloc (.cells #[.string ⟨nm.toArray⟩, .int .i64 k, .string ⟨vl.toArray⟩] 57)).heap[j]?) ∧ w'.cell? ⟨wr.heap.size, 0, none⟩ = some (.string ⟨nm.toArray⟩) ∧ w'.cell? ⟨wr.heap.size, 1, none⟩ = some (.int .i64 k) ∧ w'.cell? ⟨wr.heap.size, 2, none⟩ = some (.string ⟨vl.toArray⟩) ∧ w'.cell? ⟨0, k, none⟩ = some (.string ⟨sg.toArray⟩)) (first | exact hk | exact mkS _ (hk.1.1.alloc (Nat.le_trans hwz hk.1.1.size) _) (fun j h1 h2 => (heap_alloc_old _ _ (by have := hk.1.1.size; have := b3.size; simp at this; omega)).trans (hk.1.2 j h1 h2)))
          (first
            | (go_at_call 43; refine (hQ _ hTd.tabs).mono ?_; rintro e w3 ⟨rfl, b3⟩; have own3 := own0.below b3; have hk := mkS w3 (hk.1.1.trans (b3.mono (by simp; omega))) (fun j h1 h2 => (b3.block j (by simp; omega)).trans (hk.1.2 j h1 h2)); clear hQ own0)
            | (refine Kd.step_appm (K := KStr) rfl (.tmp 19) (.tmp 31) 111 rfl Tryz.underlying111 infoStr rfl w1.heap.size u3 _ [nm ++ sg ++ qt] (by simp [Act.eval]) (own3.alloc _) w3.heap.size 1 rfl (by omega) (heap_alloc_new w3 _) (by simp [Act.eval]) (by simp [maxLen]; omega) (by simp; omega) (by have := hk.1.1.size; simp; omega) ?_; intro v4 w4 o4 b4 g4; have z3 : wr.heap.size + 1 ≤ w3.heap.size := (by have := b3.size; simpa using this); have b4' := below_alloc (Nat.le_trans hwz hk.1.1.size) b4; have hk := mkS w4 (hk.1.1.trans b4') (fun j h1 h2 => (g4.block j (by simp; omega) h2).trans ((heap_alloc_old _ _ (by omega)).trans (hk.1.2 j h1 h2)))))
        all_goals
          go_wp2_with fail
          go_roundw
          case rel => exact ⟨i + 1, by go_num, by omega, by rw [HT2.out]; exact o4, hbw.trans hk.1.1⟩
          case measure => simp [intOf]; omega
      · have hE : (q.ms.take i).map mtS = q.ms.map mtS := by rw [List.take_of_length_le (by omega)]
        rw [hE] at hown
        have hTw := hT.below bb
        have hJz : (Lib.join (q.ms.map mtS) [44, 32]).length ≤ q.ms.length * (836 + 2) := by
          have := join_le [44, 32] 836 (q.ms.map mtS) (fun s hs => by
            obtain ⟨m, hm, rfl⟩ := List.mem_map.1 hs
            exact mtS_len (hok m hm))
          rw [List.length_map] at this
          exact this
        have hJ := joinL_is _ _ [44, 32] wr hown.rd (by rw [List.length_map]; omega) (by omega)
        have qbr := (hbw.block _ zq).trans qb
        have HU : Hid (upS q 0 = [123 :: (Lib.join (q.ms.map mtS) [44, 32] ++ [125])] ++ (if q.has = [] then [] else [[104, 97, 115], quoteS q.has])) := hid rfl
        clear hE hok hown hR qb q0
        generalize Lib.join (q.ms.map mtS) [44, 32] = J at *
        have hJl : J.length ≤ 8000 := by omega
        clear hJz
        by_cases hh : q.has = []
        · rw [if_pos hh, List.append_nil] at HU
          rw [hh] at qbr
          go_wp2_with (first
            | (go_at_call 63; refine hJ.mono ?_; rintro e w2 ⟨rfl, b2⟩; clear hJ; have qb2 := (b2.block _ (Nat.lt_of_lt_of_le zq hbw.size)).trans qbr; have q1A : ∀ o, (w2.alloc o).cell? ⟨w.heap.size, 1, none⟩ = some (.string ⟨#[]⟩) := (fun o => held_cell ((heap_alloc_old w2 o (Nat.lt_of_lt_of_le (Nat.lt_of_lt_of_le zq hbw.size) b2.size)).trans qb2) rfl); have ow2 : KStr.Own (w2.alloc (.cells #[.string (⟨#[123]⟩ ++ ⟨J.toArray⟩ ++ ⟨#[125]⟩)] 9)) w1.heap.size (.slice (some ⟨w2.heap.size, 0, none⟩) 1 1) [123 :: (J ++ [125])] := by (rw [str3]; exact Kd.Own.lit (K := KStr) w2 [123 :: (J ++ [125])] (by show 1 ≤ maxLen; decide) (Nat.le_trans hbw.size b2.size)))
            | (go_at_call 64; refine (numberWords_is _ _).mono ?_; rintro e w5 ⟨n, rfl, b5, hn, rn⟩; have own5 := ow2.below b5; have qb5 := (b5.block _ (by simp; have := b2.size; have := hbw.size; omega)).trans ((heap_alloc_old w2 _ (Nat.lt_of_lt_of_le (Nat.lt_of_lt_of_le zq hbw.size) b2.size)).trans qb2); clear ow2 q1A qb2))
          rw [show (⟨#[]⟩ : ByteArray) = ⟨q.has.toArray⟩ by rw [hh]] at qb5
          have bt5 : Below w1.heap.size w1 w5 := (hbw.trans (b2.mono hbw.size)).trans (below_alloc (Nat.le_trans hbw.size b2.size) (b5.mono (by have := b2.size; have := hbw.size; simp; omega)))
          clear hbw b2 hTw bb hi hlt b5 qbr
          generalize wr = wo at *
          go_loopw [6, 50] (fun vv iv ws => ∃ (j : Nat), iv = .int .i64 j ∧ j ≤ 3 ∧ KStr.Own ws w1.heap.size vv (upS q j) ∧ Below w1.heap.size w5 ws ∧ ws.heap[n]? = some (.cells (nwCells w.heap.size) 118 (0, 0))) (fun _ iv _ => (3 - intOf iv).toNat)
          case atStart => exact ⟨0, rfl, by omega, by rw [HU.out]; exact own5, Below.refl _ _, rn⟩
          case round =>
            obtain ⟨j, rfl, hj, hown, hbs, rn2⟩ := hrel
            have qbr2 := (hbs.block _ zq).trans ((Below.refl w1.heap.size w5).block _ zq |>.trans qb5)
            have bb : Below w1.heap.size w1 wr := bt5.trans hbs
            have hwl := hown.lt
            have hwz := bb.size
            have h1z := bw1.size
            have hTw := hT.below (bw1.trans (bb.mono bw1.size))
            by_cases hj3 : j < 3
            · obtain ⟨nm, k, d, v, hnl, hk2, hk4, e0, e1, e2, eq, es, er⟩ := nw_at q w.heap.size j hj3
              have er2 := er HR.out
              have c0 := held_cell rn2 e0
              have c1 := held_cell rn2 e1
              have c2 := held_cell rn2 e2
              have qc : wr.cell? ⟨w.heap.size, k, none⟩ = some (.int .i64 v) := held_cell qbr2 (eq _)
              have hnz := (Array.getElem?_eq_some_iff.1 rn2).1
              have hb5' := heap_alloc_new wr (.cells #[.string ⟨nm.toArray⟩, .pointer (some ⟨w.heap.size, k, none⟩), .int .i64 d] 118)
              have mkS : ∀ w' : World, Below w1.heap.size wr w' → (∀ j, j < wr.heap.size + 1 → some j ≠ u6.ownBlock → w'.heap[j]? = (wr.alloc (.cells #[.string ⟨nm.toArray⟩, .pointer (some ⟨w.heap.size, k, none⟩), .int .i64 d] 118)).heap[j]?) → (Below w1.heap.size wr w' ∧ ∀ j, j < wr.heap.size + 1 → some j ≠ u6.ownBlock → w'.heap[j]? = (wr.alloc (.cells #[.string ⟨nm.toArray⟩, .pointer (some ⟨w.heap.size, k, none⟩), .int .i64 d] 118)).heap[j]?) ∧ w'.cell? ⟨wr.heap.size, 0, none⟩ = some (.string ⟨nm.toArray⟩) ∧ w'.cell? ⟨wr.heap.size, 1, none⟩ = some (.pointer (some ⟨w.heap.size, k, none⟩)) ∧ w'.cell? ⟨wr.heap.size, 2, none⟩ = some (.int .i64 d) ∧ w'.cell? ⟨w.heap.size, k, none⟩ = some (.int .i64 v) := fun w' hb hj => by
                have e5 := (hj wr.heap.size (by omega) (fun e => by have := hwl _ e.symm; omega)).trans hb5'
                refine ⟨⟨hb, hj⟩, held_cell e5 rfl, held_cell e5 rfl, held_cell e5 rfl, ?_⟩
                exact (hb.cell (p := ⟨w.heap.size, k, none⟩) zq).trans qc
              have hk := mkS (wr.alloc (.cells #[.string ⟨nm.toArray⟩, .pointer (some ⟨w.heap.size, k, none⟩), .int .i64 d] 118)).drew (((Below.refl _ wr).alloc hwz _).drew) (fun j _ _ => rfl)
              have own0 : KStr.Own (wr.alloc (.cells #[.string ⟨nm.toArray⟩, .pointer (some ⟨w.heap.size, k, none⟩), .int .i64 d] 118)).drew w1.heap.size u6 (upS q j) := hown.alloc _
              have HE : Hid (upS q (j + 1) = upS q j ++ (if v = d then [] else [nm, Lib.itoa v])) := hid (by rw [← es]; rfl)
              have hul := upS_len q j
              have rnA : ∀ o, (wr.alloc o).heap[n]? = some (.cells (nwCells w.heap.size) 118 (0, 0)) := fun o => (heap_alloc_old wr o hnz).trans rn2
              have hne := own_ne hown rn2 (by decide)
              clear HP HU e0 e1 e2 eq es er
              by_cases hvd : v = d
              · rw [if_pos hvd, List.append_nil] at HE
                have hvd' : (v == d) = true := by simpa using hvd
                go_wp2_with fail
                go_region_held3 (fun w' => (Below w1.heap.size wr w' ∧ ∀ j, j < wr.heap.size + 1 → some j ≠ u6.ownBlock → w'.heap[j]? = (wr.alloc (.cells #[.string ⟨nm.toArray⟩, .pointer (some ⟨w.heap.size, k, none⟩), .int .i64 d] 118)).heap[j]?) ∧ w'.cell? ⟨wr.heap.size, 0, none⟩ = some (.string ⟨nm.toArray⟩) ∧ w'.cell? ⟨wr.heap.size, 1, none⟩ = some (.pointer (some ⟨w.heap.size, k, none⟩)) ∧ w'.cell? ⟨wr.heap.size, 2, none⟩ = some (.int .i64 d) ∧ w'.cell? ⟨w.heap.size, k, none⟩ = some (.int .i64 v)) (first | exact hk | exact mkS _ (hk.1.1.alloc (Nat.le_trans hwz hk.1.1.size) _) (fun j h1 h2 => (heap_alloc_old _ _ (by have := hk.1.1.size; have := b3.size; simp at this; omega)).trans (hk.1.2 j h1 h2))) (fail)
                all_goals
                  go_wp2_with fail
                  go_roundw
                  case rel => exact ⟨j + 1, by go_num, by omega, by rw [HE.out]; first | exact own0 | exact hown.alloc _, hbs.trans hk.1.1, rnA _⟩
                  case measure => simp [intOf]; omega
              · rw [if_neg hvd] at HE
                have hvd' : (v == d) = false := by simpa using hvd
                have hI := fun w' hT' => Itoa_is v (by omega) (by omega) w' hT'
                have hkd := mkS (wr.alloc (.cells #[.string ⟨nm.toArray⟩, .pointer (some ⟨w.heap.size, k, none⟩), .int .i64 d] 118)).drew.drew (((Below.refl _ wr).alloc hwz _).drew.drew) (fun j _ _ => rfl)
                have own00 : KStr.Own (wr.alloc (.cells #[.string ⟨nm.toArray⟩, .pointer (some ⟨w.heap.size, k, none⟩), .int .i64 d] 118)).drew.drew w1.heap.size u6 (upS q j) := hown.alloc _
                have hTd : TabsM (wr.alloc (.cells #[.string ⟨nm.toArray⟩, .pointer (some ⟨w.heap.size, k, none⟩), .int .i64 d] 118)).drew.drew := hTw.below (((Below.refl _ wr).alloc (Nat.le_refl _) _).drew.drew)
                go_wp2_with fail
                go_region_held3 (fun w' => (Below w1.heap.size wr w' ∧ ∀ j, j < wr.heap.size + 1 → some j ≠ u6.ownBlock → w'.heap[j]? = (wr.alloc (.cells #[.string ⟨nm.toArray⟩, .pointer (some ⟨w.heap.size, k, none⟩), .int .i64 d] 118)).heap[j]?) ∧ w'.cell? ⟨wr.heap.size, 0, none⟩ = some (.string ⟨nm.toArray⟩) ∧ w'.cell? ⟨wr.heap.size, 1, none⟩ = some (.pointer (some ⟨w.heap.size, k, none⟩)) ∧ w'.cell? ⟨wr.heap.size, 2, none⟩ = some (.int .i64 d) ∧ w'.cell? ⟨w.heap.size, k, none⟩ = some (.int .i64 v)) (first | exact hk | exact mkS _ (hk.1.1.alloc (Nat.le_trans hwz hk.1.1.size) _) (fun j h1 h2 => (heap_alloc_old _ _ (by have := hk.1.1.size; have := b3.size; simp at this; omega)).trans (hk.1.2 j h1 h2))) (fail)
                all_goals
                  have hk := hkd
                  go_wp2_with fail
                  go_region_held3 (fun w' => (Below w1.heap.size wr w' ∧ ∀ j, j < wr.heap.size + 1 → some j ≠ u6.ownBlock → w'.heap[j]? = (wr.alloc (.cells #[.string ⟨nm.toArray⟩, .pointer (some ⟨w.heap.size, k, none⟩), .int .i64 d] 118)).heap[j]?) ∧ w'.cell? ⟨wr.heap.size, 0, none⟩ = some (.string ⟨nm.toArray⟩) ∧ w'.cell? ⟨wr.heap.size, 1, none⟩ = some (.pointer (some ⟨w.heap.size, k, none⟩)) ∧ w'.cell? ⟨wr.heap.size, 2, none⟩ = some (.int .i64 d) ∧ w'.cell? ⟨w.heap.size, k, none⟩ = some (.int .i64 v)) (first | exact hk | exact mkS _ (hk.1.1.alloc (Nat.le_trans hwz hk.1.1.size) _) (fun j h1 h2 => (heap_alloc_old _ _ (by have := hk.1.1.size; have := b3.size; simp at this; omega)).trans (hk.1.2 j h1 h2)))
                    (first
                      | (go_at_call 65; refine (hI _ hTd).mono ?_; rintro e w3 ⟨rfl, b3⟩; have own3 := own00.below b3; have hk := mkS w3 (hk.1.1.trans (b3.mono (by simp; omega))) (fun j h1 h2 => (b3.block j (by simp; omega)).trans (hk.1.2 j h1 h2)); clear hI own00)
                      | (refine Kd.step_appm (K := KStr) rfl (.tmp 61) (.tmp 69) 111 rfl Tryz.underlying111 infoStr rfl w1.heap.size u6 _ [nm, Lib.itoa v] (by simp [Act.eval]) (own3.alloc _) w3.heap.size 2 rfl (by omega) (heap_alloc_new w3 _) (by simp [Act.eval]) (by unfold maxLen; omega) (by omega) (by have := hk.1.1.size; simp; omega) ?_; intro v4 w4 o4 b4 g4; have z3 : wr.heap.size + 1 ≤ w3.heap.size := (by have := b3.size; simpa using this); have b4' := below_alloc (Nat.le_trans hwz hk.1.1.size) b4; have rn4 := (g4.block n (by simp; omega) hne).trans ((heap_alloc_old w3 _ (by omega)).trans ((b3.block n (by simp; omega)).trans (rnA _))); have hk := mkS w4 (hk.1.1.trans b4') (fun j h1 h2 => (g4.block j (by simp; omega) h2).trans ((heap_alloc_old _ _ (by omega)).trans (hk.1.2 j h1 h2)))))
                  all_goals
                    go_wp2_with fail
                    go_roundw
                    case rel => exact ⟨j + 1, by go_num, by omega, by rw [HE.out]; exact o4, hbs.trans hk.1.1, rn4⟩
                    case measure => simp [intOf]; omega
            · have ej : j = 3 := by omega
              subst ej
              have q5 : wr.cell? ⟨w.heap.size, 5, none⟩ = some (.bool q.newest) := held_cell qbr2 rfl
              have bfin : Below w.heap.size w wr := bw1.trans (bb.mono bw1.size)
              have hup := upS_le HR.out 3
              have hul := upS_len q 3
              have hF := fun (l : List B8) (hl : l.length ≤ 10) (hs : ∀ s ∈ l, s.length ≤ 8100) (v : Value) (w' : World) (h : KStr.Rd w' v l) => joinL_is v l [32] w' h (by omega) (Nat.le_trans (join_le [32] 8100 l hs) (Nat.le_trans (Nat.mul_le_mul_right _ hl) (by decide)))
              cases hnw : q.newest with
              | false =>
                rw [hnw] at q5 HP
                rw [if_neg (by decide), List.append_nil] at HP
                clear HU hnw
                go_wp2_with (go_at_call 63; refine (hF _ (by omega) hup _ _ hown.rd).mono ?_; rintro e w6 ⟨rfl, b6⟩)
                go_ret
                rw [HP.out]
                exact ⟨rfl, bfin.trans (b6.mono bfin.size)⟩
              | true =>
                rw [hnw] at q5 HP
                rw [if_pos rfl] at HP
                clear HU hnw
                have hup2 : ∀ s ∈ upS q 3 ++ [[110, 101, 119, 101, 115, 116]], s.length ≤ 8100 := fun s hs => by
                  rcases List.mem_append.1 hs with h1 | h1
                  · exact hup s h1
                  · rw [List.mem_singleton] at h1
                    rw [h1]
                    decide
                have hul2 : (upS q 3 ++ [[110, 101, 119, 101, 115, 116]]).length ≤ 10 := by rw [List.length_append]; show _ + 1 ≤ 10; omega
                go_wp2_with (first
                  | (at_builtin; refine Kd.wp_appm (K := KStr) (k := 1) rfl (.tmp 74) (.tmp 75) 111 rfl Tryz.underlying111 infoStr rfl w1.heap.size u6 (upS q 3) [[110, 101, 119, 101, 115, 116]] rfl hown rfl rfl (by simp) rfl rfl (by unfold maxLen; omega) (by omega) hwz ?_; intro v4 w4 o4 b4 g4 _)
                  | (go_at_call 63; refine (hF _ hul2 hup2 _ _ o4.rd).mono ?_; rintro e w6 ⟨rfl, b6⟩))
                go_ret
                rw [HP.out]
                exact ⟨rfl, bfin.trans ((b4.trans (b6.mono (Nat.le_trans hwz b4.size))).mono bw1.size)⟩
        · rw [if_neg hh] at HU
          have hne : (q.has == []) = false := by simpa using hh
          have hQ2 := fun w' hT' => Quote_is ⟨q.has.toArray⟩ w' (by rw [Lib.size_mk]; omega) hT'
          simp only [] at hQ2
          have hTA : ∀ w2, Below wr.heap.size wr w2 → ∀ o, TabsM (w2.alloc o) := fun w2 b2 o => hTw.below ((b2.alloc b2.size o))
          go_wp2_with (first
            | (go_at_call 63; refine hJ.mono ?_; rintro e w2 ⟨rfl, b2⟩; clear hJ; have qb2 := (b2.block _ (Nat.lt_of_lt_of_le zq hbw.size)).trans qbr; have q1A : ∀ o, (w2.alloc o).cell? ⟨w.heap.size, 1, none⟩ = some (.string ⟨q.has.toArray⟩) := (fun o => held_cell ((heap_alloc_old w2 o (Nat.lt_of_lt_of_le (Nat.lt_of_lt_of_le zq hbw.size) b2.size)).trans qb2) rfl); have ow2 : KStr.Own (w2.alloc (.cells #[.string (⟨#[123]⟩ ++ ⟨J.toArray⟩ ++ ⟨#[125]⟩)] 9)) w1.heap.size (.slice (some ⟨w2.heap.size, 0, none⟩) 1 1) [123 :: (J ++ [125])] := by (rw [str3]; exact Kd.Own.lit (K := KStr) w2 [123 :: (J ++ [125])] (by show 1 ≤ maxLen; decide) (Nat.le_trans hbw.size b2.size)))
            | (go_at_call 43; refine (hQ2 _ (hTA _ b2 _).tabs).mono ?_; rintro e w7 ⟨rfl, b7⟩; have own7 := ow2.below b7; have z7 := b7.size; have b7' := below_alloc (Nat.le_trans hbw.size b2.size) (b7.mono (by have := b2.size; have := hbw.size; simp; omega)); clear ow2 q1A hQ2)
            | (at_builtin; refine Kd.wp_appm (K := KStr) rfl (.tmp 42) (.tmp 46) 111 rfl Tryz.underlying111 infoStr rfl w1.heap.size _ [123 :: (J ++ [125])] [[104, 97, 115], quoteS q.has] rfl own7 rfl rfl (by simp) rfl rfl (by show 1 + 2 ≤ maxLen; decide) (by show (1 + 2) * 16 ≤ _; decide) (by have := b2.size; have := hbw.size; simp at z7; omega) ?_; intro v8 w8 o8 b8 g8 _; clear own7; have b8' := (b7'.trans b8); have zb2 := b2.size; have zbw := hbw.size; have qb8 := ((b8.block _ zq).trans (b7'.block _ zq)).trans qb2)
            | (go_at_call 64; refine (numberWords_is _ _).mono ?_; rintro e w5 ⟨n, rfl, b5, hn, rn⟩; have own5 := o8.below b5; have z8 := b8'.size; have qb5 := (b5.block _ (by omega)).trans qb8; clear o8 qb2 qb8))
          have bt5 : Below w1.heap.size w1 w5 := (hbw.trans (b2.mono hbw.size)).trans (b8'.trans (b5.mono (by omega)))
          clear hbw b2 hTw bb hi hlt b5 qbr b8 b8' b7 b7'
          generalize wr = wo at *
          go_loopw [6, 50] (fun vv iv ws => ∃ (j : Nat), iv = .int .i64 j ∧ j ≤ 3 ∧ KStr.Own ws w1.heap.size vv (upS q j) ∧ Below w1.heap.size w5 ws ∧ ws.heap[n]? = some (.cells (nwCells w.heap.size) 118 (0, 0))) (fun _ iv _ => (3 - intOf iv).toNat)
          case atStart => exact ⟨0, rfl, by omega, by rw [HU.out]; exact own5, Below.refl _ _, rn⟩
          case round =>
            obtain ⟨j, rfl, hj, hown, hbs, rn2⟩ := hrel
            have qbr2 := (hbs.block _ zq).trans ((Below.refl w1.heap.size w5).block _ zq |>.trans qb5)
            have bb : Below w1.heap.size w1 wr := bt5.trans hbs
            have hwl := hown.lt
            have hwz := bb.size
            have h1z := bw1.size
            have hTw := hT.below (bw1.trans (bb.mono bw1.size))
            by_cases hj3 : j < 3
            · obtain ⟨nm, k, d, v, hnl, hk2, hk4, e0, e1, e2, eq, es, er⟩ := nw_at q w.heap.size j hj3
              have er2 := er HR.out
              have c0 := held_cell rn2 e0
              have c1 := held_cell rn2 e1
              have c2 := held_cell rn2 e2
              have qc : wr.cell? ⟨w.heap.size, k, none⟩ = some (.int .i64 v) := held_cell qbr2 (eq _)
              have hnz := (Array.getElem?_eq_some_iff.1 rn2).1
              have hb5' := heap_alloc_new wr (.cells #[.string ⟨nm.toArray⟩, .pointer (some ⟨w.heap.size, k, none⟩), .int .i64 d] 118)
              have mkS : ∀ w' : World, Below w1.heap.size wr w' → (∀ j, j < wr.heap.size + 1 → some j ≠ u6.ownBlock → w'.heap[j]? = (wr.alloc (.cells #[.string ⟨nm.toArray⟩, .pointer (some ⟨w.heap.size, k, none⟩), .int .i64 d] 118)).heap[j]?) → (Below w1.heap.size wr w' ∧ ∀ j, j < wr.heap.size + 1 → some j ≠ u6.ownBlock → w'.heap[j]? = (wr.alloc (.cells #[.string ⟨nm.toArray⟩, .pointer (some ⟨w.heap.size, k, none⟩), .int .i64 d] 118)).heap[j]?) ∧ w'.cell? ⟨wr.heap.size, 0, none⟩ = some (.string ⟨nm.toArray⟩) ∧ w'.cell? ⟨wr.heap.size, 1, none⟩ = some (.pointer (some ⟨w.heap.size, k, none⟩)) ∧ w'.cell? ⟨wr.heap.size, 2, none⟩ = some (.int .i64 d) ∧ w'.cell? ⟨w.heap.size, k, none⟩ = some (.int .i64 v) := fun w' hb hj => by
                have e5 := (hj wr.heap.size (by omega) (fun e => by have := hwl _ e.symm; omega)).trans hb5'
                refine ⟨⟨hb, hj⟩, held_cell e5 rfl, held_cell e5 rfl, held_cell e5 rfl, ?_⟩
                exact (hb.cell (p := ⟨w.heap.size, k, none⟩) zq).trans qc
              have hk := mkS (wr.alloc (.cells #[.string ⟨nm.toArray⟩, .pointer (some ⟨w.heap.size, k, none⟩), .int .i64 d] 118)).drew (((Below.refl _ wr).alloc hwz _).drew) (fun j _ _ => rfl)
              have own0 : KStr.Own (wr.alloc (.cells #[.string ⟨nm.toArray⟩, .pointer (some ⟨w.heap.size, k, none⟩), .int .i64 d] 118)).drew w1.heap.size u6 (upS q j) := hown.alloc _
              have HE : Hid (upS q (j + 1) = upS q j ++ (if v = d then [] else [nm, Lib.itoa v])) := hid (by rw [← es]; rfl)
              have hul := upS_len q j
              have rnA : ∀ o, (wr.alloc o).heap[n]? = some (.cells (nwCells w.heap.size) 118 (0, 0)) := fun o => (heap_alloc_old wr o hnz).trans rn2
              have hne := own_ne hown rn2 (by decide)
              clear HP HU e0 e1 e2 eq es er
              by_cases hvd : v = d
              · rw [if_pos hvd, List.append_nil] at HE
                have hvd' : (v == d) = true := by simpa using hvd
                go_wp2_with fail
                go_region_held3 (fun w' => (Below w1.heap.size wr w' ∧ ∀ j, j < wr.heap.size + 1 → some j ≠ u6.ownBlock → w'.heap[j]? = (wr.alloc (.cells #[.string ⟨nm.toArray⟩, .pointer (some ⟨w.heap.size, k, none⟩), .int .i64 d] 118)).heap[j]?) ∧ w'.cell? ⟨wr.heap.size, 0, none⟩ = some (.string ⟨nm.toArray⟩) ∧ w'.cell? ⟨wr.heap.size, 1, none⟩ = some (.pointer (some ⟨w.heap.size, k, none⟩)) ∧ w'.cell? ⟨wr.heap.size, 2, none⟩ = some (.int .i64 d) ∧ w'.cell? ⟨w.heap.size, k, none⟩ = some (.int .i64 v)) (first | exact hk | exact mkS _ (hk.1.1.alloc (Nat.le_trans hwz hk.1.1.size) _) (fun j h1 h2 => (heap_alloc_old _ _ (by have := hk.1.1.size; have := b3.size; simp at this; omega)).trans (hk.1.2 j h1 h2))) (fail)
                all_goals
                  go_wp2_with fail
                  go_roundw
                  case rel => exact ⟨j + 1, by go_num, by omega, by rw [HE.out]; first | exact own0 | exact hown.alloc _, hbs.trans hk.1.1, rnA _⟩
                  case measure => simp [intOf]; omega
              · rw [if_neg hvd] at HE
                have hvd' : (v == d) = false := by simpa using hvd
                have hI := fun w' hT' => Itoa_is v (by omega) (by omega) w' hT'
                have hkd := mkS (wr.alloc (.cells #[.string ⟨nm.toArray⟩, .pointer (some ⟨w.heap.size, k, none⟩), .int .i64 d] 118)).drew.drew (((Below.refl _ wr).alloc hwz _).drew.drew) (fun j _ _ => rfl)
                have own00 : KStr.Own (wr.alloc (.cells #[.string ⟨nm.toArray⟩, .pointer (some ⟨w.heap.size, k, none⟩), .int .i64 d] 118)).drew.drew w1.heap.size u6 (upS q j) := hown.alloc _
                have hTd : TabsM (wr.alloc (.cells #[.string ⟨nm.toArray⟩, .pointer (some ⟨w.heap.size, k, none⟩), .int .i64 d] 118)).drew.drew := hTw.below (((Below.refl _ wr).alloc (Nat.le_refl _) _).drew.drew)
                go_wp2_with fail
                go_region_held3 (fun w' => (Below w1.heap.size wr w' ∧ ∀ j, j < wr.heap.size + 1 → some j ≠ u6.ownBlock → w'.heap[j]? = (wr.alloc (.cells #[.string ⟨nm.toArray⟩, .pointer (some ⟨w.heap.size, k, none⟩), .int .i64 d] 118)).heap[j]?) ∧ w'.cell? ⟨wr.heap.size, 0, none⟩ = some (.string ⟨nm.toArray⟩) ∧ w'.cell? ⟨wr.heap.size, 1, none⟩ = some (.pointer (some ⟨w.heap.size, k, none⟩)) ∧ w'.cell? ⟨wr.heap.size, 2, none⟩ = some (.int .i64 d) ∧ w'.cell? ⟨w.heap.size, k, none⟩ = some (.int .i64 v)) (first | exact hk | exact mkS _ (hk.1.1.alloc (Nat.le_trans hwz hk.1.1.size) _) (fun j h1 h2 => (heap_alloc_old _ _ (by have := hk.1.1.size; have := b3.size; simp at this; omega)).trans (hk.1.2 j h1 h2))) (fail)
                all_goals
                  have hk := hkd
                  go_wp2_with fail
                  go_region_held3 (fun w' => (Below w1.heap.size wr w' ∧ ∀ j, j < wr.heap.size + 1 → some j ≠ u6.ownBlock → w'.heap[j]? = (wr.alloc (.cells #[.string ⟨nm.toArray⟩, .pointer (some ⟨w.heap.size, k, none⟩), .int .i64 d] 118)).heap[j]?) ∧ w'.cell? ⟨wr.heap.size, 0, none⟩ = some (.string ⟨nm.toArray⟩) ∧ w'.cell? ⟨wr.heap.size, 1, none⟩ = some (.pointer (some ⟨w.heap.size, k, none⟩)) ∧ w'.cell? ⟨wr.heap.size, 2, none⟩ = some (.int .i64 d) ∧ w'.cell? ⟨w.heap.size, k, none⟩ = some (.int .i64 v)) (first | exact hk | exact mkS _ (hk.1.1.alloc (Nat.le_trans hwz hk.1.1.size) _) (fun j h1 h2 => (heap_alloc_old _ _ (by have := hk.1.1.size; have := b3.size; simp at this; omega)).trans (hk.1.2 j h1 h2)))
                    (first
                      | (go_at_call 65; refine (hI _ hTd).mono ?_; rintro e w3 ⟨rfl, b3⟩; have own3 := own00.below b3; have hk := mkS w3 (hk.1.1.trans (b3.mono (by simp; omega))) (fun j h1 h2 => (b3.block j (by simp; omega)).trans (hk.1.2 j h1 h2)); clear hI own00)
                      | (refine Kd.step_appm (K := KStr) rfl (.tmp 61) (.tmp 69) 111 rfl Tryz.underlying111 infoStr rfl w1.heap.size u6 _ [nm, Lib.itoa v] (by simp [Act.eval]) (own3.alloc _) w3.heap.size 2 rfl (by omega) (heap_alloc_new w3 _) (by simp [Act.eval]) (by unfold maxLen; omega) (by omega) (by have := hk.1.1.size; simp; omega) ?_; intro v4 w4 o4 b4 g4; have z3 : wr.heap.size + 1 ≤ w3.heap.size := (by have := b3.size; simpa using this); have b4' := below_alloc (Nat.le_trans hwz hk.1.1.size) b4; have rn4 := (g4.block n (by simp; omega) hne).trans ((heap_alloc_old w3 _ (by omega)).trans ((b3.block n (by simp; omega)).trans (rnA _))); have hk := mkS w4 (hk.1.1.trans b4') (fun j h1 h2 => (g4.block j (by simp; omega) h2).trans ((heap_alloc_old _ _ (by omega)).trans (hk.1.2 j h1 h2)))))
                  all_goals
                    go_wp2_with fail
                    go_roundw
                    case rel => exact ⟨j + 1, by go_num, by omega, by rw [HE.out]; exact o4, hbs.trans hk.1.1, rn4⟩
                    case measure => simp [intOf]; omega
            · have ej : j = 3 := by omega
              subst ej
              have q5 : wr.cell? ⟨w.heap.size, 5, none⟩ = some (.bool q.newest) := held_cell qbr2 rfl
              have bfin : Below w.heap.size w wr := bw1.trans (bb.mono bw1.size)
              have hup := upS_le HR.out 3
              have hul := upS_len q 3
              have hF := fun (l : List B8) (hl : l.length ≤ 10) (hs : ∀ s ∈ l, s.length ≤ 8100) (v : Value) (w' : World) (h : KStr.Rd w' v l) => joinL_is v l [32] w' h (by omega) (Nat.le_trans (join_le [32] 8100 l hs) (Nat.le_trans (Nat.mul_le_mul_right _ hl) (by decide)))
              cases hnw : q.newest with
              | false =>
                rw [hnw] at q5 HP
                rw [if_neg (by decide), List.append_nil] at HP
                clear HU hnw
                go_wp2_with (go_at_call 63; refine (hF _ (by omega) hup _ _ hown.rd).mono ?_; rintro e w6 ⟨rfl, b6⟩)
                go_ret
                rw [HP.out]
                exact ⟨rfl, bfin.trans (b6.mono bfin.size)⟩
              | true =>
                rw [hnw] at q5 HP
                rw [if_pos rfl] at HP
                clear HU hnw
                have hup2 : ∀ s ∈ upS q 3 ++ [[110, 101, 119, 101, 115, 116]], s.length ≤ 8100 := fun s hs => by
                  rcases List.mem_append.1 hs with h1 | h1
                  · exact hup s h1
                  · rw [List.mem_singleton] at h1
                    rw [h1]
                    decide
                have hul2 : (upS q 3 ++ [[110, 101, 119, 101, 115, 116]]).length ≤ 10 := by rw [List.length_append]; show _ + 1 ≤ 10; omega
                go_wp2_with (first
                  | (at_builtin; refine Kd.wp_appm (K := KStr) (k := 1) rfl (.tmp 74) (.tmp 75) 111 rfl Tryz.underlying111 infoStr rfl w1.heap.size u6 (upS q 3) [[110, 101, 119, 101, 115, 116]] rfl hown rfl rfl (by simp) rfl rfl (by unfold maxLen; omega) (by omega) hwz ?_; intro v4 w4 o4 b4 g4 _)
                  | (go_at_call 63; refine (hF _ hul2 hup2 _ _ o4.rd).mono ?_; rintro e w6 ⟨rfl, b6⟩))
                go_ret
                rw [HP.out]
                exact ⟨rfl, bfin.trans ((b4.trans (b6.mono (Nat.le_trans hwz b4.size))).mono bw1.size)⟩
end Go.Proofs.YtlhodanpfpfodaaGreatDoor
