/-
  The program's cache and the reference's hold the same; lent bytes; writes to bytes that are nobody's. Conditions: those that each theorem names.
-/
import Derived.Test.YtflhgoecmcfkkaaCop4
import Derived.Test.YtflhgoecmcfkkaaCrf4
namespace Go.Icz
open Go.RowKit
abbrev KV := ByteArray × List Nat
def kvL (L : List It) : List KV := L.map fun e => (e.key, e.val)
def kvR (l : List RIt) : List KV := l.map fun x => (x.key, x.val)
def psum (p : List KV) : Nat := (p.map fun a => a.1.size + a.2.length).sum
def pdel (k : ByteArray) (p : List KV) : List KV := p.filter fun a => decide (a.1 ≠ k)
def proom (li n : Nat) : List KV → List KV
  | [] => []
  | a :: r => if li < psum (a :: r) + n then proom li n r else a :: r
theorem tot_kv (L : List It) : tot L = psum (kvL L) := by unfold tot psum kvL sz; rw [List.map_map]; rfl
theorem rtot_kv (l : List RIt) : rtot l = psum (kvR l) := by unfold rtot psum kvR; rw [List.map_map]; rfl
theorem del_kv (k : ByteArray) (L : List It) : kvL (del k L) = pdel k (kvL L) := by unfold kvL del pdel; rw [List.filter_map]; rfl
theorem rdel_kv (k : ByteArray) (l : List RIt) : kvR (rdel k l) = pdel k (kvR l) := by unfold kvR rdel pdel; rw [List.filter_map]; rfl
theorem room_kv (li n : Nat) : ∀ L : List It, kvL (room li n L) = proom li n (kvL L)
  | [] => rfl
  | e :: r => by
    have h : kvL (e :: r) = (e.key, e.val) :: kvL r := rfl
    unfold room
    rw [h]
    unfold proom
    rw [tot_kv, h]
    split
    · exact room_kv li n r
    · rfl
theorem rroom_kv (li n : Nat) : ∀ l : List RIt, kvR (rroom li n l) = proom li n (kvR l)
  | [] => rfl
  | e :: r => by
    have h : kvR (e :: r) = (e.key, e.val) :: kvR r := rfl
    unfold rroom
    rw [h]
    unfold proom
    rw [rtot_kv, h]
    split
    · exact rroom_kv li n r
    · rfl
/-- They hold the same. -/
def Eqv (L : List It) (l : List RIt) : Prop := kvL L = kvR l
theorem Eqv.tot {L : List It} {l : List RIt} (h : Eqv L l) : rtot l = tot L := by rw [tot_kv, rtot_kv, h]
theorem Eqv.keys {L : List It} {l : List RIt} (h : Eqv L l) : L.map (·.key) = l.map (·.key) := by
  have := congrArg (List.map Prod.fst) h
  unfold kvL kvR at this
  rw [List.map_map, List.map_map] at this
  exact this
theorem isIn_kv (k : ByteArray) (L : List It) : isIn k L = (kvL L).any fun a => decide (a.1 = k) := by unfold isIn kvL; rw [List.any_map]; rfl
theorem isInR_kv (k : ByteArray) (l : List RIt) : isInR k l = (kvR l).any fun a => decide (a.1 = k) := by unfold isInR kvR; rw [List.any_map]; rfl
theorem Eqv.isIn {L : List It} {l : List RIt} (h : Eqv L l) (k : ByteArray) : isInR k l = isIn k L := by rw [isIn_kv, isInR_kv, h]
theorem Eqv.del {L : List It} {l : List RIt} (h : Eqv L l) (k : ByteArray) : Eqv (del k L) (rdel k l) := by unfold Eqv; rw [del_kv, rdel_kv, h]
theorem Eqv.val {L : List It} {l : List RIt} (h : Eqv L l) (k : ByteArray) : valR k l = valC k L := by
  have e1 : (L.find? fun e => decide (e.key = k)).map (fun e => (e.key, e.val)) = (kvL L).find? fun a => decide (a.1 = k) := by unfold kvL; rw [List.find?_map]; rfl
  have e2 : (l.find? fun x => decide (x.key = k)).map (fun x => (x.key, x.val)) = (kvR l).find? fun a => decide (a.1 = k) := by unfold kvR; rw [List.find?_map]; rfl
  have e3 : (L.find? fun e => decide (e.key = k)).map (fun e => (e.key, e.val)) = (l.find? fun x => decide (x.key = k)).map (fun x => (x.key, x.val)) := by rw [e1, e2, h]
  unfold valR valC theIt
  revert e3
  cases L.find? fun e => decide (e.key = k) <;> cases l.find? fun x => decide (x.key = k) <;> simp
  intro _ h
  exact h.symm
theorem Eqv.bump {L : List It} {l : List RIt} (h : Eqv L l) (k : ByteArray) : Eqv (bump k L) (rbump k l) := by
  have e1 : (L.find? fun e => decide (e.key = k)).map (fun e => (e.key, e.val)) = (kvL L).find? fun a => decide (a.1 = k) := by unfold kvL; rw [List.find?_map]; rfl
  have e2 : (l.find? fun x => decide (x.key = k)).map (fun x => (x.key, x.val)) = (kvR l).find? fun a => decide (a.1 = k) := by unfold kvR; rw [List.find?_map]; rfl
  have e3 : (L.find? fun e => decide (e.key = k)).map (fun e => (e.key, e.val)) = (l.find? fun x => decide (x.key = k)).map (fun x => (x.key, x.val)) := by rw [e1, e2, h]
  have hd := h.del k
  unfold Go.Icz.bump rbump theIt
  revert e3
  cases L.find? fun e => decide (e.key = k) <;> cases l.find? fun x => decide (x.key = k)
  · intro _; exact h
  · intro h; cases h
  · intro h; cases h
  · rename_i e x
    intro h3
    have h3 : (e.key, e.val) = (x.key, x.val) := Option.some.inj h3
    unfold Eqv at hd ⊢
    have h1 : kvL (Go.Icz.del k L ++ [e]) = kvL (Go.Icz.del k L) ++ [(e.key, e.val)] := List.map_append
    have h2 : kvR (rdel k l ++ [x]) = kvR (rdel k l) ++ [(x.key, x.val)] := List.map_append
    simp only [h1, h2, hd, h3]
/-- Bytes in the row of block g, which is the call's own. -/
structure Ln (w : World) (g : Nat) (l : List Nat) (m : Nat) : Prop where
  row : ∃ cur, w.heap[g]? = some (.cells cur 5 (0, 0))
  at_ : ∀ j (hj : j < l.length), w.cell? ⟨g, j, none⟩ = some (.int .u8 (l[j] : Int))
theorem Ln.touch {S : Nat → Prop} {w w' : World} {g m : Nat} {l : List Nat} (h : Ln w g l m) (k : Tch S w w') (hS : ¬ S g) : Ln w' g l m := by
  obtain ⟨cur, hc⟩ := h.row
  have hb := k.block g (row_lt hc) hS
  exact ⟨⟨cur, hb.trans hc⟩, fun j hj => (World.cell?_of_block (a := ⟨g, j, none⟩) hb).trans (h.at_ j hj)⟩
end Go.Icz
namespace Go.Proofs.Ytflhgoecmcfkkaa
open Go.RowKit Go.Icz Go.Maps
theorem Eqv_put {L : List It} {l : List RIt} (h : Eqv L l) (k : ByteArray) (v : List Nat) (g : Nat) (sv : Value) (A : Option Addr) (c li : Nat) : Eqv (putL li k v g sv L) (rroom li (k.size + v.length) (rdel k l) ++ [⟨k, A, c, v⟩]) := by
  unfold Eqv putL
  have h1 : kvL (room li (k.size + v.length) (Go.Icz.del k L) ++ [⟨k, v, g, sv⟩]) = kvL (room li (k.size + v.length) (Go.Icz.del k L)) ++ [(k, v)] := List.map_append
  have h2 : kvR (rroom li (k.size + v.length) (rdel k l) ++ [⟨k, A, c, v⟩]) = kvR (rroom li (k.size + v.length) (rdel k l)) ++ [(k, v)] := List.map_append
  rw [h1, h2, room_kv, rroom_kv, del_kv, rdel_kv, h]
theorem Own.far {w w' : World} {B g : Nat} {v : Value} {l : List Nat} (h : Own w B v l) (k : Tch (· = g) w w') (hv : v.ownBlock ≠ some g) : Own w' B v l := by
  refine ⟨h.1, ?_⟩
  rcases h.2 with h | ⟨b, cap, cur, hv', hg, hh, r⟩
  · exact .inl h
  · exact .inr ⟨b, cap, cur, hv', hg, k.row hh (fun e => hv (by rw [hv']; simp only [Value.ownBlock]; rw [e])), r⟩
/-- Bytes that are none of the cache's are written. -/
theorem Ca.bytes {w w' : World} {B q s m li g : Nat} {hi mi : Int} {l : List It} (h : Ca w B q s m li hi mi l) {cur : Array Value} (hg : w.heap[g]? = some (.cells cur 5 (0, 0))) (k : Tch (· = g) w w') (hv : ∀ e ∈ l, e.sv.ownBlock ≠ some g) : Ca w' B q s m li hi mi l := by
  have hf := h.sh.qn hg (by decide) (by decide)
  have hq : ¬ q = g := fun e => by
    have := h.at_
    rw [e, hg] at this
    injection this with this
    injection this with _ h3 _
    cases h3
  obtain ⟨D, h1, h2⟩ := h.sh.mp
  refine ⟨⟨k.row h.sh.at_ fun e => hf (.inl e.symm), h.sh.ch.touch k fun e he hh => hf (.inr (.inr (by rw [← hh]; exact mem_gs he))), h.sh.nd, h.sh.sn, h.sh.ks, ⟨D, ownsMap_touch h1 k fun e => hf (.inr (.inl e.symm)), h2⟩, fun e he => Own.far (h.sh.vs e he) k (hv e he), h.sh.lo, h.sh.le, h.sh.lim⟩, k.row h.at_ hq, h.lo⟩
theorem Rf.bytes {w w' : World} {B rq li g : Nat} {hi mi : Int} {v : Value} {l : List RIt} (h : Rf w B rq li hi mi v l) {cur : Array Value} (hg : w.heap[g]? = some (.cells cur 5 (0, 0))) (k : Tch (· = g) w w') (hv : ∀ x ∈ l, x.v.ownBlock ≠ some g) : Rf w' B rq li hi mi v l := by
  have hn : ∀ j, FootR rq v j → ¬ j = g := fun j hj e => by
    obtain ⟨cs, t, z, h1, h2⟩ := h.typ j hj
    rw [e, hg] at h1
    injection h1 with h1
    injection h1 with _ h3 _
    rcases h2 with h2 | h2 <;> (rw [← h3] at h2; exact absurd h2 (by decide))
  exact ⟨k.row h.at_ (hn _ (.inl rfl)), h.tl.touch k.block fun b hb => hn b (.inr hb), fun x hx => Own.far (h.vs x hx) k (hv x hx), h.lo, h.le, h.ks⟩
theorem Rf.bytesNo {w : World} {B rq li g : Nat} {hi mi : Int} {v : Value} {l : List RIt} (h : Rf w B rq li hi mi v l) {cur : Array Value} (hg : w.heap[g]? = some (.cells cur 5 (0, 0))) : ¬ FootR rq v g := fun hj => by
  obtain ⟨cs, t, z, h1, h2⟩ := h.typ g hj
  rw [hg] at h1
  injection h1 with h1
  injection h1 with _ h3 _
  rcases h2 with h2 | h2 <;> (rw [← h3] at h2; exact absurd h2 (by decide))
/-- A cache's own blocks are none of a reference's. -/
theorem apart {w : World} {B q s m li : Nat} {hi mi : Int} {L : List It} (hC : Ca w B q s m li hi mi L) {B' rq li' : Nat} {hi' mi' : Int} {v : Value} {l : List RIt} (hR : Rf w B' rq li' hi' mi' v l) : ∀ j, FootR rq v j → ¬ (j = q ∨ Foot s m L j) := by
  intro j hj hc
  obtain ⟨cs, t, z, h1, h2⟩ := hR.typ j hj
  rcases hc with hc | hc
  · have := hC.at_
    rw [← hc, h1] at this
    injection this with this
    injection this with _ h3 _
    rw [h3] at h2
    rcases h2 with h2 | h2 <;> exact absurd h2 (by decide)
  · refine hC.sh.qn h1 ?_ ?_ hc
    · rcases h2 with h2 | h2 <;> (rw [h2]; decide)
    · rcases h2 with h2 | h2 <;> (rw [h2]; decide)
set_option maxRecDepth 100000 in
theorem Lent_is (v : Value) (l : List Nat) (w : World) (hv : Rd w v l) (hlen : l.length ≤ 1048576) :
    Calls Try.prog 20 #[v] w fun e w' => ∃ g cap, e = .returned (.slice (some ⟨g, 0, none⟩) l.length cap) ∧ l.length + 2 ≤ cap ∧ w.heap.size ≤ g ∧ g < w'.heap.size ∧ Ln w' g (l ++ [77, 78]) 0 ∧ Below w.heap.size w w' := by
  have hv0 := hv
  obtain ⟨A, c, rfl, _, _⟩ := hv
  have HV := hid hv0
  clear hv0
  go_enter Try.func20, Try.ntmps20
  go_wp2_with (first
    | (at_builtin; refine wp_appR std rfl (.tmp 4) (.tmp 5) rfl w.heap.size _ _ [] l rfl (Own.made w (Nat.le_refl _)) rfl (HV.out.below ((Below.refl _ _).alloc (Nat.le_refl _) _)) (by simp; omega) (by simp) ?_; intro v1 w1 o1 b1; simp only [List.nil_append] at o1; have hs1 : w.heap.size ≤ w1.heap.size := Nat.le_trans (by simp) b1.size)
    | (at_builtin; refine wp_appR std rfl (.tmp 7) (.tmp 8) rfl w.heap.size _ _ l [77, 78] rfl (o1.alloc _) rfl (Rd.two _ 77 78) ?_ ?_ ?_; (focus (simp; omega)); (focus (simp; omega)); intro v2 w2 o2 b2; clear o1; obtain ⟨g, cap, rfl, hg, hg2, hcap, hcell⟩ := o2.form (by simp); have hlc : (l ++ [77, 78]).length = l.length + 2 := by simp))
  go_ret
  have hrow : ∃ cur, w2.heap[g]? = some (.cells cur 5 (0, 0)) := by
    rcases o2.2 with ⟨h1, _⟩ | ⟨g', cap', cur, h1, _, h3, _⟩
    · cases h1
    · injection h1 with h1 _ _
      injection h1 with h1
      injection h1 with h1
      subst h1
      exact ⟨cur, h3⟩
  refine ⟨g, cap, rfl, by omega, hg, hg2, ⟨hrow, hcell⟩, ?_⟩
  exact (((Below.refl _ _).alloc (Nat.le_refl _) _).trans b1).trans (((Below.refl _ _).alloc hs1 _).trans b2)
set_option maxRecDepth 100000 in
set_option maxHeartbeats 400000 in
theorem Stays_is (g cap : Nat) (u : Value) (l : List Nat) (w : World) (hx : Ln w g (l ++ [77, 78]) 0) (hcap : l.length + 2 ≤ cap) (hu : Rd w u l) (hlen : l.length ≤ 1048576) :
    Calls Try.prog 22 #[.slice (some ⟨g, 0, none⟩) l.length cap, u] w fun e w' => e = .returned (.bool true) ∧ Below w.heap.size w w' := by
  have hcell := hx.at_
  obtain ⟨cur, hcur⟩ := hx.row
  have r1 : Rd w (.slice (some ⟨g, 0, none⟩) l.length cap) l := ⟨_, cap, rfl, by omega, fun _ => ⟨g, 0, rfl, row_lt hcur, fun j hj => by
    have := hcell j (by simp; omega)
    rw [List.getElem_append_left hj] at this
    rw [Nat.zero_add]
    exact this⟩⟩
  have c2 := fun n => conv_rd std (show Rd (w.drewN n) u l from hu)
  obtain ⟨A, c, rfl, hc, _⟩ := hu
  have c1 := fun n => conv_rd std (show Rd (w.drewN n) _ l from r1)
  have k1 := hcell l.length (by simp)
  have k2 := hcell (l.length + 1) (by simp)
  simp only [List.getElem_append_right (Nat.le_refl _), List.getElem_append_right (Nat.le_succ _), Nat.sub_self, List.getElem_cons_zero] at k1 k2
  have h0 : l.length ≤ cap := by omega
  clear hcell r1 hx hcur
  go_enter Try.func22, Try.ntmps22
  go_wp2_with fail
  go_quiet (fail)
  go_wp2
  go_ret
  exact ⟨rfl, rfl, rfl, rfl, Nat.le_refl _, fun _ _ => rfl⟩
end Go.Proofs.Ytflhgoecmcfkkaa
