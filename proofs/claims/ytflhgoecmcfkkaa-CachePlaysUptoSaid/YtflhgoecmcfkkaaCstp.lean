/-
  The law's step: a call on the program's cache and on the reference's; they agree. Conditions: those that the theorem names.
-/
import Derived.Test.YtflhgoecmcfkkaaCeqv
namespace Go.Proofs.Ytflhgoecmcfkkaa
open Go.RowKit Go.Icz Go.Maps
theorem Put_fit {w : World} {B q s m li : Nat} {hi mi : Int} {l : List It} (h : Ca w B q s m li hi mi l) (k : ByteArray) (u : Value) (v : List Nat) (hu : Rd w u v) (huF : 0 < v.length → ∀ b, u.ownBlock = some b → ¬ Foot s m l b) (hs : k.size + v.length ≤ li) :
    Calls Try.prog 15 #[.pointer (some ⟨q, 0, none⟩), .string k, u] w fun e w' => e = .returned (.int .i64 0) ∧ ∃ g sv, w.heap.size ≤ g ∧ (∀ b, sv.ownBlock = some b → w.heap.size ≤ b) ∧ Ca w' B q s m li hi mi (putL li k v g sv l) ∧ Tch (Foot s m l) w w' := by
  have := h.sh.lim
  refine (Put_new h k (by omega) u v hu (by omega) huF).mono ?_
  rintro e w' (⟨h1, _⟩ | ⟨_, h2, h3⟩)
  · omega
  · exact ⟨h2, h3⟩
theorem Texts_same (v u : Value) (l : List ByteArray) (w : World) (h1 : KS.Rd w v l) (h2 : KS.Rd w u l) (hl : l.length ≤ 1099511627776) : Calls Try.prog 19 #[v, u] w fun e w' => e = .returned (.bool true) ∧ Below w.heap.size w w' := by
  refine (Texts_is v u l l w h1 h2 hl hl).mono ?_
  rintro e w' ⟨rfl, hb⟩
  exact ⟨by simp, hb⟩
theorem apart' {w : World} {B q s m li : Nat} {hi mi : Int} {L : List It} (hC : Ca w B q s m li hi mi L) {B' rq li' : Nat} {hi' mi' : Int} {v : Value} {l : List RIt} (hR : Rf w B' rq li' hi' mi' v l) : ∀ j, Foot s m L j → ¬ FootR rq v j := fun j hj hr => apart hC hR j hr (.inr hj)
theorem Bx.footR {w w' : World} {g : Nat} {x : OpE} {B rq li : Nat} {hi mi : Int} {v : Value} {l : List RIt} (h : Bx w g x) (hR : Rf w B rq li hi mi v l) {S : Nat → Prop} (k : Tch S w w') (hS : ∀ j, S j → FootR rq v j) : Bx w' g x := by
  refine k.row h fun hs => ?_
  obtain ⟨cs, t, z, h1, h2⟩ := hR.typ g (hS g hs)
  unfold Bx at h
  rw [h] at h1
  injection h1 with h1
  injection h1 with _ h3 _
  rcases h2 with h2 | h2 <;> (rw [← h3] at h2; exact absurd h2 (by decide))
/-- What a step leaves. -/
def StepOut (w : World) (B q s m rq li : Nat) (L : List It) (v : Value) (e : Ending) (w' : World) : Prop :=
  e = .returned (.bool true) ∧ ∃ hi' mi' L' v' l', Ca w' B q s m li hi' mi' L' ∧ Rf w' B rq li hi' mi' v' l' ∧ Eqv L' l' ∧ Tch (fun j => Foot s m L j ∨ FootR rq v j) w w' ∧ (∀ j, Foot s m L' j → Foot s m L j ∨ w.heap.size ≤ j) ∧ (∀ b, v'.ownBlock = some b → v.ownBlock = some b ∨ w.heap.size ≤ b)
theorem sv_lt {w : World} {B : Nat} {v : Value} {l : List Nat} (h : Own w B v l) {g : Nat} (hg : w.heap.size ≤ g) : v.ownBlock ≠ some g := fun e => by
  have := (World.ownsRow.lt h g e).2
  omega
theorem foot_put {s m li : Nat} {k : ByteArray} {v : List Nat} {g : Nat} {sv : Value} {L : List It} {j : Nat} (h : Foot s m (putL li k v g sv L) j) : Foot s m L j ∨ j = g := by
  rcases h with h | h | h
  · exact .inl (.inl h)
  · exact .inl (.inr (.inl h))
  · unfold putL at h
    rw [gs_app] at h
    rcases List.mem_append.1 h with h | h
    · exact .inl (foot_del (foot_room (li := li) (n := k.size + v.length) (.inr (.inr h))))
    · exact .inr (by simpa [gs] using h)
theorem foot_bump {s m : Nat} {k : ByteArray} {L : List It} {j : Nat} (h : Foot s m (bump k L) j) : Foot s m L j := by
  rcases h with h | h | h
  · exact .inl h
  · exact .inr (.inl h)
  · refine .inr (.inr ?_)
    unfold bump at h
    split at h
    · rename_i e he
      unfold theIt at he
      have hm := List.mem_of_find?_eq_some he
      rw [gs_app] at h
      rcases List.mem_append.1 h with h | h
      · obtain ⟨x, hx, rfl⟩ := List.mem_map.1 h
        exact mem_gs (List.mem_filter.1 hx).1
      · have : j = e.g := by simpa [gs] using h
        rw [this]
        exact mem_gs hm
    · exact h
theorem mem_bump {k : ByteArray} {L : List It} {x : It} (h : x ∈ bump k L) : x ∈ L := by
  unfold bump at h
  split at h
  · rename_i e he
    unfold theIt at he
    rcases List.mem_append.1 h with h | h
    · exact (List.mem_filter.1 h).1
    · obtain rfl : x = e := by simpa using h
      exact List.mem_of_find?_eq_some he
  · exact h
theorem mem_rbump {k : ByteArray} {l : List RIt} {x : RIt} (h : x ∈ rbump k l) : x ∈ l := by
  unfold rbump at h
  split at h
  · rename_i e he
    rcases List.mem_append.1 h with h | h
    · exact (List.mem_filter.1 h).1
    · obtain rfl : x = e := by simpa using h
      exact List.mem_of_find?_eq_some he
  · exact h
theorem mem_room {li n : Nat} {l : List It} {x : It} (h : x ∈ room li n l) : x ∈ l := by
  obtain ⟨xs, e⟩ := room_suffix li n l
  rw [e]
  exact List.mem_append.2 (.inr h)
theorem mem_rroom {li n : Nat} {l : List RIt} {x : RIt} (h : x ∈ rroom li n l) : x ∈ l := by
  obtain ⟨xs, e⟩ := rroom_suffix li n l
  rw [e]
  exact List.mem_append.2 (.inr h)
theorem valC_len {w : World} {B s m li : Nat} {hi mi : Int} {L : List It} (h : Sh w B s m li hi mi L) (k : ByteArray) : (valC k L).length ≤ 1048576 := by
  unfold valC
  split
  · rename_i e he
    exact (h.small (List.mem_of_find?_eq_some he)).2.1
  · simp
theorem bool_refl (b : Bool) : (b == b) = true := by simp
theorem int_refl (i : Int) : (i == i) = true := by simp
set_option maxRecDepth 100000 in
set_option maxHeartbeats 32000000 in
theorem step_is {w : World} {B q s m rq li : Nat} {hi mi : Int} {L : List It} {v : Value} {l : List RIt} (hC0 : Ca w B q s m li hi mi L) (hR0 : Rf w B rq li hi mi v l) (hE0 : Eqv L l) (kd : Int) (key : ByteArray) (A : Option Addr) (c : Nat) (bs : List Nat) (hu : Rd w (.slice A bs.length c) bs) (hkm : key.size ≤ 1048576) (hbm : bs.length ≤ 1048576) (huB : 0 < bs.length → ∀ b, (Value.slice A bs.length c).ownBlock = some b → b < B) :
    Calls Try.prog 11 #[.pointer (some ⟨q, 0, none⟩), .pointer (some ⟨rq, 0, none⟩), .agg #[.int .i64 kd, .string key, .slice A bs.length c]] w (StepOut w B q s m rq li L v) := by
  have hB : B ≤ w.heap.size := Nat.le_of_lt (Nat.lt_of_le_of_lt hC0.lo (row_lt hC0.at_))
  have hli := hC0.sh.lim
  have ha := (Below.refl w.heap.size w).alloc (Nat.le_refl _) (.cells #[.int .i64 kd, .string key, .slice A bs.length c] 34)
  have hbx : Bx (w.alloc (.cells #[.int .i64 kd, .string key, .slice A bs.length c] 34)) w.heap.size ⟨kd, key, A, c, bs⟩ := heap_alloc_new w _
  have hC1 := hC0.below ha
  have hR1 := hR0.below ha
  have hu1 := hu.below ha
  have hT1 : Tch (fun j => Foot s m L j ∨ FootR rq v j) w (w.alloc (.cells #[.int .i64 kd, .string key, .slice A bs.length c] 34)) := Tch.of_below ha
  have hs1 : (w.alloc (.cells #[.int .i64 kd, .string key, .slice A bs.length c] 34)).heap.size = w.heap.size + 1 := by simp
  have hvL : ∀ g, w.heap.size ≤ g → ∀ e ∈ L, e.sv.ownBlock ≠ some g := fun g hg e he => sv_lt (hC0.sh.vs e he) hg
  have hvR : ∀ g, w.heap.size ≤ g → ∀ x ∈ l, x.v.ownBlock ≠ some g := fun g hg x hx => sv_lt (hR0.vs x hx) hg
  have huF : ∀ L', 0 < bs.length → ∀ b, (Value.slice A bs.length c).ownBlock = some b → (∀ j, Foot s m L' j → B ≤ j) → ¬ Foot s m L' b := fun L' h0 b hb hL hf => by have := huB h0 b hb; have := hL b hf; omega
  have huR : 0 < bs.length → ∀ b, (Value.slice A bs.length c).ownBlock = some b → ¬ FootR rq v b := fun h0 b hb hf => by have := huB h0 b hb; have := (hR0.lt b hf).1; omega
  obtain ⟨z0, z1, z2⟩ := hbx.cells
  clear hu ha
  generalize hW1 : w.alloc (.cells #[.int .i64 kd, .string key, .slice A bs.length c] 34) = W1 at *
  by_cases k0 : kd = 0
  · subst k0
    have ir1 := int_refl hi
    have ir2 := int_refl mi
    by_cases hfit : key.size + bs.length ≤ li
    · have mkS : ∀ w', Bx w' w.heap.size ⟨0, key, A, c, bs⟩ → w'.cell? ⟨w.heap.size, 1, none⟩ = some (.string key) ∧ w'.cell? ⟨w.heap.size, 2, none⟩ = some (.slice A bs.length c) := fun w' h => h.cells.2
      go_enter Try.func11, Try.ntmps11
      go_wp2_with (go_at_call 20; refine (Lent_is _ bs W1 hu1 hbm).mono ?_; rintro e w2 ⟨gl, cap, rfl, hcap, hgl1, hgl2, hLn2, b2⟩; have hC2 := hC1.below b2; have hR2 := hR1.below b2; have hbx2 := hbx.below b2; have hu2 := hu1.below b2)
      obtain ⟨cur2, hcur2⟩ := hLn2.row
      have hlr2 : Rd w2 (.slice (some ⟨gl, 0, none⟩) bs.length cap) bs := ⟨_, cap, rfl, by omega, fun _ => ⟨gl, 0, rfl, hgl2, fun j hj => by
        have := hLn2.at_ j (by simp; omega)
        rw [List.getElem_append_left hj] at this
        rw [Nat.zero_add]
        exact this⟩⟩
      have glF : ¬ Foot s m L gl := hC2.sh.qn hcur2 (by decide) (by decide)
      have glU : 0 < bs.length → ∀ b, (Value.slice (some (⟨gl, 0, none⟩ : Addr)) bs.length cap).ownBlock = some b → ¬ Foot s m L b := fun _ b hb hf => by
        injection hb with hb
        exact glF (by rw [show gl = b from hb]; exact hf)
      have hk0 := mkS _ (show Bx w2.drew w.heap.size ⟨0, key, A, c, bs⟩ from hbx2)
      have hgw : w.heap.size ≤ gl := by omega
      have hPut := fun w2' (b : Below w2.heap.size w2 w2') => Put_fit (hC2.below b) key _ bs (hlr2.below b) glU hfit
      go_region_held3 (fun w' => w'.cell? ⟨w.heap.size, 1, none⟩ = some (.string key) ∧ w'.cell? ⟨w.heap.size, 2, none⟩ = some (.slice A bs.length c)) (exact hk0)
        (first
          | (go_at_call 15; refine (hPut _ (by first | exact Below.refl _ _ | exact (Below.refl _ w2).drew)).mono ?_; rintro e w3 ⟨rfl, g, sv, hg, hsv, hC3, ht3⟩; have ht3 : Tch (Foot s m L) w2 w3 := (Tch.drew _ w2).trans ht3; have hbx3 := hbx2.foot hC2.sh ht3; have hk0 := mkS _ hbx3; have hR3 := hR2.touch ht3 (apart' hC2 hR2) hC2.sh.nb; have hLn3 := hLn2.touch ht3 glF; have hu3 := Rd.touch hu2 ht3 (fun h0 b hb => huF L h0 b hb (fun j hj => (hC2.sh.lt j hj).1)))
          | (go_at_call 9; refine (num_is _ _).mono ?_; rintro e w0 ⟨rfl, hw0⟩; have hw0 := hw0.symm; subst hw0)
          | (go_at_call 21; refine (R8Put_fit hR3 hli key _ bs hu3 huR hfit).mono ?_; rintro e w4 ⟨rfl, v4, A4, c4, hR4, hsv4, ht4, hb4⟩; have hC4 := hC3.touch ht4 (apart hC3 hR3) hR3.nb; have hbx4 := hbx3.footR hR3 ht4 (fun j hj => hj); have hk0 := mkS _ hbx4; have hLn4 := hLn3.touch ht4 (by obtain ⟨cur3, hcur3⟩ := hLn3.row; exact hR3.bytesNo hcur3); have hu4 := Rd.touch hu3 ht4 huR)
          | (go_at_call 22; refine (Stays_is gl cap _ bs w4 hLn4 hcap hu4 hbm).mono ?_; rintro e w5 ⟨rfl, b5⟩; have hC5 := hC4.below b5; have hR5 := hR4.below b5; have hk0 := mkS _ (hbx4.below b5)))
      have hE := Eqv_put hE0 key bs g sv A4 c4 li
      have hg' : w2.heap.size ≤ g := hg
      have hsv' : ∀ b, sv.ownBlock = some b → w2.heap.size ≤ b := hsv
      have hvL3 : ∀ e ∈ putL li key bs g sv L, e.sv.ownBlock ≠ some gl := fun e he => by
        unfold putL at he
        rcases List.mem_append.1 he with he | he
        · exact hvL gl hgw e (List.mem_filter.1 (mem_room he)).1
        · obtain rfl : e = ⟨key, bs, g, sv⟩ := by simpa using he
          exact fun h => by have := hsv' gl h; omega
      have hvR3 : ∀ x ∈ rroom li (key.size + bs.length) (rdel key l) ++ [⟨key, A4, c4, bs⟩], x.v.ownBlock ≠ some gl := fun x hx => by
        rcases List.mem_append.1 hx with hx | hx
        · exact hvR gl hgw x (List.mem_filter.1 (mem_rroom hx)).1
        · obtain rfl : x = ⟨key, A4, c4, bs⟩ := by simpa using hx
          exact fun h => by have := hsv4 gl h; have := ht3.size; omega
      have hN1 : ∀ j, Foot s m (putL li key bs g sv L) j → Foot s m L j ∨ w.heap.size ≤ j := fun j hj => (foot_put hj).imp id fun h1 => by have := b2.size; omega
      have hN2 : ∀ b, v4.ownBlock = some b → v.ownBlock = some b ∨ w.heap.size ≤ b := fun b hb => (hb4 b hb).imp id fun h1 => by have := ht3.size; have := b2.size; omega
      have hT4 := ((hT1.trans (Tch.of_below b2)).trans (ht3.mono fun j hj => .inl hj)).trans (ht4.mono fun j hj => .inr hj)
      clear hC0 hR0 hC1 hR1 hE0 hT1 huF huR hbx hu1 hC2 hR2 hC3 hR3 hC4 hR4 hbx2 hbx3 hbx4 hPut hlr2 hLn2 hLn3 hu2 hu3 hu4 glU glF hcur2 hk0 mkS ht3 ht4 hsv hsv' hsv4 hb4 b2 hg hg' hvL hvR z0 z1 z2
      generalize putL li key bs g sv L = L3 at *
      generalize rroom li (key.size + bs.length) (rdel key l) ++ [⟨key, A4, c4, bs⟩] = l3 at *
      have hT5 := hT4.trans (Tch.of_below b5)
      have hLn5 := hLn4.touch (Tch.of_below b5 (S := fun _ => False)) (fun h => h)
      have hcur : ∃ cur : Array Value, w5.heap[gl]? = some (.cells cur 5 (0, 0)) ∧ ∀ j, j < bs.length → ∃ x : Int, cur[j]? = some (.int .u8 x) := by
        obtain ⟨cur, h3⟩ := hLn5.row
        refine ⟨cur, h3, fun j hj => ?_⟩
        have h5 := hLn5.at_ j (by simp; omega)
        rw [cell_of_row _ _ _ _ _ _ h3] at h5
        exact ⟨_, h5⟩
      have hCl : ∀ wr (cur : Array Value), wr.heap[gl]? = some (.cells cur 5 (0, 0)) → Tch (· = gl) w5 wr → Ca wr B q s m li hi mi (L3) := fun wr cur _ ht => by
        obtain ⟨cur0, h0, _⟩ := hcur
        exact hC5.bytes h0 ht (fun e he => hvL3 e he)
      have hRl : ∀ wr (cur : Array Value), wr.heap[gl]? = some (.cells cur 5 (0, 0)) → Tch (· = gl) w5 wr → Rf wr B rq li hi mi v4 (l3) := fun wr cur _ ht => by
        obtain ⟨cur0, h0, _⟩ := hcur
        exact hR5.bytes h0 ht (fun x hx => hvR3 x hx)
      have hTl : ∀ wr, Tch (· = gl) w5 wr → Tch (fun j => Foot s m L j ∨ FootR rq v j) w wr := fun wr ht => hT5.out ht (fun j hj => .inr (by rw [hj]; exact hgw))
      clear hLn4 hLn5 hC5 hR5 hT4 hT5 hvL3 hvR3 b5
      go_wp2
      generalize w5 = wq at *
      go_loopw [9] (fun iv wr => ∃ i : Nat, iv = .int .i64 i ∧ i ≤ bs.length ∧ Tch (· = gl) wq wr ∧ ∃ cur : Array Value, wr.heap[gl]? = some (.cells cur 5 (0, 0)) ∧ ∀ j, j < bs.length → ∃ x : Int, cur[j]? = some (.int .u8 x)) (fun iv _ => bs.length - (intOf iv).toNat)
      case atStart => exact ⟨0, rfl, Nat.zero_le _, Tch.refl _ _, hcur⟩
      case round =>
        obtain ⟨i, rfl, hii, hti, cur, hcr, hcx⟩ := hrel
        by_cases hil : i < bs.length
        · obtain ⟨x, hx⟩ := hcx i hil
          have p1 : wr.cell? ⟨gl, i, none⟩ = some (.int .u8 x) := held_cell hcr hx
          have p2 : wr.frozen? ⟨gl, i, none⟩ = false := held_frozen hcr
          have hilI : (i : Int) < (bs.length : Int) := by omega
          have hilA : Hid (i < bs.length) := hid hil
          have hnext : Hid (∀ y : Int, Tch (· = gl) wq (wr.setCell ⟨gl, i, none⟩ (.int .u8 y)) ∧ ∃ cur : Array Value, (wr.setCell ⟨gl, i, none⟩ (.int .u8 y)).heap[gl]? = some (.cells cur 5 (0, 0)) ∧ ∀ j, j < bs.length → ∃ x : Int, cur[j]? = some (.int .u8 x)) := hid (fun y => by
            refine ⟨hti.trans (Tch.set _ _ _ _ rfl), _, row_set hcr _, fun j hj => ?_⟩
            by_cases e : j = i
            · have hsz : i < cur.size := (Array.getElem?_eq_some_iff.1 hx).1
              exact ⟨y, by rw [e]; simp [hsz]⟩
            · obtain ⟨x', hx'⟩ := hcx j hj
              exact ⟨x', by rw [Array.getElem?_setIfInBounds_ne (Ne.symm e)]; exact hx'⟩)
          clear hcr hcx hx hti
          go_wp2
          go_roundw
          case rel => exact ⟨i + 1, by go_num, by have := hilA.out; omega, (hnext.out _).1, (hnext.out _).2⟩
          case measure => have := hilA.out; simp [intOf]; omega
        · obtain rfl : i = bs.length := by omega
          have hCt := hCl wr cur hcr hti
          have hRt := hRl wr cur hcr hti
          have hTt := hTl wr hti
          clear hcr hcx hti hCl hRl hTl
          have hC := hCt
          have hR := hRt
          have hT := hTt
          have hlenL : ((L3).map (·.key)).length ≤ 1099511627776 := by rw [List.length_map]; have := hC.sh.len; have := hC.sh.lim; omega
          have hkk := hid hE.keys
          have htt := hid hE.tot
          go_wp2_with (first
            | (go_at_call 14; refine (Hits_is hC).mono ?_; rintro e wa ⟨rfl, ba⟩; have hCa := hC.below ba; have hRa := hR.below ba; have hTa := hT.trans (Tch.of_below ba))
            | (go_at_call 17; refine (Used_is hCa).mono ?_; rintro e wx ⟨rfl, hx⟩; have hx := hx.symm; subst hx)
            | (go_at_call 26; refine (R8Used_is hRa).mono ?_; rw [htt.out]; rintro e wb ⟨rfl, bb⟩; have hCb := hCa.below bb; have hRb := hRa.below bb; have hTb := hTa.trans (Tch.of_below bb))
            | (go_at_call 18; refine (Keys_is hCb).mono ?_; rintro e wc ⟨k1, rfl, o1, bc⟩; have hCc := hCb.below bc; have hRc := hRb.below bc; have hTc := hTb.trans (Tch.of_below bc))
            | (go_at_call 27; refine (R8Keys_is hRc).mono ?_; rw [← hkk.out]; rintro e wd ⟨k2, rfl, o2, bd⟩; have hCd := hCc.below bd; have hRd := hRc.below bd; have hTd := hTc.trans (Tch.of_below bd); have hTx := Texts_same k1 k2 _ wd (o1.below bd).rd o2.rd hlenL)
            | (go_at_call 19; refine hTx.mono ?_; rintro e we ⟨rfl, be⟩; have hCe := hCd.below be; have hRe := hRd.below be; have hTe := hTd.trans (Tch.of_below be); have h1e : we.cell? ⟨rq, 1, none⟩ = some (.int .i64 hi) := held_cell hRe.at_ rfl; have h2e : we.cell? ⟨rq, 2, none⟩ = some (.int .i64 mi) := held_cell hRe.at_ rfl))
          go_ret
          exact ⟨rfl, hi, mi, L3, _, _, hCe, hRe, hE, hTe, hN1, hN2⟩
    · have mkS : ∀ w', Bx w' w.heap.size ⟨0, key, A, c, bs⟩ → w'.cell? ⟨w.heap.size, 1, none⟩ = some (.string key) ∧ w'.cell? ⟨w.heap.size, 2, none⟩ = some (.slice A bs.length c) := fun w' h => h.cells.2
      go_enter Try.func11, Try.ntmps11
      go_wp2_with (go_at_call 20; refine (Lent_is _ bs W1 hu1 hbm).mono ?_; rintro e w2 ⟨gl, cap, rfl, hcap, hgl1, hgl2, hLn2, b2⟩; have hC2 := hC1.below b2; have hR2 := hR1.below b2; have hbx2 := hbx.below b2; have hu2 := hu1.below b2)
      obtain ⟨cur2, hcur2⟩ := hLn2.row
      have hlr2 : Rd w2 (.slice (some ⟨gl, 0, none⟩) bs.length cap) bs := ⟨_, cap, rfl, by omega, fun _ => ⟨gl, 0, rfl, hgl2, fun j hj => by
        have := hLn2.at_ j (by simp; omega)
        rw [List.getElem_append_left hj] at this
        rw [Nat.zero_add]
        exact this⟩⟩
      have glF : ¬ Foot s m L gl := hC2.sh.qn hcur2 (by decide) (by decide)
      have glU : 0 < bs.length → ∀ b, (Value.slice (some (⟨gl, 0, none⟩ : Addr)) bs.length cap).ownBlock = some b → ¬ Foot s m L b := fun _ b hb hf => by
        injection hb with hb
        exact glF (by rw [show gl = b from hb]; exact hf)
      have hk0 := mkS _ (show Bx w2.drew w.heap.size ⟨0, key, A, c, bs⟩ from hbx2)
      have hgw : w.heap.size ≤ gl := by omega
      have hPut := fun w2' (b : Below w2.heap.size w2 w2') => Put_big (hC2.below b) key (by omega) _ bs (hlr2.below b) (by omega) glU (by omega)
      go_region_held3 (fun w' => w'.cell? ⟨w.heap.size, 1, none⟩ = some (.string key) ∧ w'.cell? ⟨w.heap.size, 2, none⟩ = some (.slice A bs.length c)) (exact hk0)
        (first
          | (go_at_call 15; refine (hPut _ (by first | exact Below.refl _ _ | exact (Below.refl _ w2).drew)).mono ?_; rintro e w3 ⟨rfl, b3⟩; have b3 : Below w2.heap.size w2 w3 := (Below.refl _ w2).drew.trans b3; have hC3 := hC2.below b3; have hR3 := hR2.below b3; have hbx3 := hbx2.below b3; have hk0 := mkS _ hbx3; have hLn4 := hLn2.touch (Tch.of_below b3 (S := fun _ => False)) (fun h => h); have hu4 := hu2.below b3)
          | (go_at_call 9; refine (num_is _ _).mono ?_; rintro e w0 ⟨rfl, hw0⟩; have hw0 := hw0.symm; subst hw0)
          | (go_at_call 21; refine (R8Put_big hR3 key hkm _ bs hu4 hbm (by omega)).mono ?_; rintro e w4 ⟨rfl, hw4⟩; have hw4 := hw4.symm; subst hw4)
          | (go_at_call 22; refine (Stays_is gl cap _ bs w3 hLn4 hcap hu4 hbm).mono ?_; rintro e w5 ⟨rfl, b5⟩; have hC5 := hC3.below b5; have hR5 := hR3.below b5; have hk0 := mkS _ (hbx3.below b5)))
      have hE := hE0
      have hvL3 : ∀ e ∈ L, e.sv.ownBlock ≠ some gl := fun e he => hvL gl hgw e he
      have hvR3 : ∀ x ∈ l, x.v.ownBlock ≠ some gl := fun x hx => hvR gl hgw x hx
      have hN1 : ∀ j, Foot s m L j → Foot s m L j ∨ w.heap.size ≤ j := fun j hj => .inl hj
      have hN2 : ∀ b, v.ownBlock = some b → v.ownBlock = some b ∨ w.heap.size ≤ b := fun b hb => .inl hb
      have hT4 := (hT1.trans (Tch.of_below b2)).trans (Tch.of_below b3)
      clear hC0 hR0 hC1 hR1 hE0 hT1 huF huR hbx hu1 hC2 hR2 hC3 hR3 hbx2 hbx3 hPut hlr2 hLn2 hu2 hu4 glU glF hcur2 hk0 mkS b2 b3 hvL hvR z0 z1 z2
      have hT5 := hT4.trans (Tch.of_below b5)
      have hLn5 := hLn4.touch (Tch.of_below b5 (S := fun _ => False)) (fun h => h)
      have hcur : ∃ cur : Array Value, w5.heap[gl]? = some (.cells cur 5 (0, 0)) ∧ ∀ j, j < bs.length → ∃ x : Int, cur[j]? = some (.int .u8 x) := by
        obtain ⟨cur, h3⟩ := hLn5.row
        refine ⟨cur, h3, fun j hj => ?_⟩
        have h5 := hLn5.at_ j (by simp; omega)
        rw [cell_of_row _ _ _ _ _ _ h3] at h5
        exact ⟨_, h5⟩
      have hCl : ∀ wr (cur : Array Value), wr.heap[gl]? = some (.cells cur 5 (0, 0)) → Tch (· = gl) w5 wr → Ca wr B q s m li hi mi (L) := fun wr cur _ ht => by
        obtain ⟨cur0, h0, _⟩ := hcur
        exact hC5.bytes h0 ht (fun e he => hvL3 e he)
      have hRl : ∀ wr (cur : Array Value), wr.heap[gl]? = some (.cells cur 5 (0, 0)) → Tch (· = gl) w5 wr → Rf wr B rq li hi mi v (l) := fun wr cur _ ht => by
        obtain ⟨cur0, h0, _⟩ := hcur
        exact hR5.bytes h0 ht (fun x hx => hvR3 x hx)
      have hTl : ∀ wr, Tch (· = gl) w5 wr → Tch (fun j => Foot s m L j ∨ FootR rq v j) w wr := fun wr ht => hT5.out ht (fun j hj => .inr (by rw [hj]; exact hgw))
      clear hLn4 hLn5 hC5 hR5 hT4 hT5 hvL3 hvR3 b5
      go_wp2
      generalize w5 = wq at *
      go_loopw [9] (fun iv wr => ∃ i : Nat, iv = .int .i64 i ∧ i ≤ bs.length ∧ Tch (· = gl) wq wr ∧ ∃ cur : Array Value, wr.heap[gl]? = some (.cells cur 5 (0, 0)) ∧ ∀ j, j < bs.length → ∃ x : Int, cur[j]? = some (.int .u8 x)) (fun iv _ => bs.length - (intOf iv).toNat)
      case atStart => exact ⟨0, rfl, Nat.zero_le _, Tch.refl _ _, hcur⟩
      case round =>
        obtain ⟨i, rfl, hii, hti, cur, hcr, hcx⟩ := hrel
        by_cases hil : i < bs.length
        · obtain ⟨x, hx⟩ := hcx i hil
          have p1 : wr.cell? ⟨gl, i, none⟩ = some (.int .u8 x) := held_cell hcr hx
          have p2 : wr.frozen? ⟨gl, i, none⟩ = false := held_frozen hcr
          have hilI : (i : Int) < (bs.length : Int) := by omega
          have hilA : Hid (i < bs.length) := hid hil
          have hnext : Hid (∀ y : Int, Tch (· = gl) wq (wr.setCell ⟨gl, i, none⟩ (.int .u8 y)) ∧ ∃ cur : Array Value, (wr.setCell ⟨gl, i, none⟩ (.int .u8 y)).heap[gl]? = some (.cells cur 5 (0, 0)) ∧ ∀ j, j < bs.length → ∃ x : Int, cur[j]? = some (.int .u8 x)) := hid (fun y => by
            refine ⟨hti.trans (Tch.set _ _ _ _ rfl), _, row_set hcr _, fun j hj => ?_⟩
            by_cases e : j = i
            · have hsz : i < cur.size := (Array.getElem?_eq_some_iff.1 hx).1
              exact ⟨y, by rw [e]; simp [hsz]⟩
            · obtain ⟨x', hx'⟩ := hcx j hj
              exact ⟨x', by rw [Array.getElem?_setIfInBounds_ne (Ne.symm e)]; exact hx'⟩)
          clear hcr hcx hx hti
          go_wp2
          go_roundw
          case rel => exact ⟨i + 1, by go_num, by have := hilA.out; omega, (hnext.out _).1, (hnext.out _).2⟩
          case measure => have := hilA.out; simp [intOf]; omega
        · obtain rfl : i = bs.length := by omega
          have hCt := hCl wr cur hcr hti
          have hRt := hRl wr cur hcr hti
          have hTt := hTl wr hti
          clear hcr hcx hti hCl hRl hTl
          have hC := hCt
          have hR := hRt
          have hT := hTt
          have hlenL : ((L).map (·.key)).length ≤ 1099511627776 := by rw [List.length_map]; have := hC.sh.len; have := hC.sh.lim; omega
          have hkk := hid hE.keys
          have htt := hid hE.tot
          go_wp2_with (first
            | (go_at_call 14; refine (Hits_is hC).mono ?_; rintro e wa ⟨rfl, ba⟩; have hCa := hC.below ba; have hRa := hR.below ba; have hTa := hT.trans (Tch.of_below ba))
            | (go_at_call 17; refine (Used_is hCa).mono ?_; rintro e wx ⟨rfl, hx⟩; have hx := hx.symm; subst hx)
            | (go_at_call 26; refine (R8Used_is hRa).mono ?_; rw [htt.out]; rintro e wb ⟨rfl, bb⟩; have hCb := hCa.below bb; have hRb := hRa.below bb; have hTb := hTa.trans (Tch.of_below bb))
            | (go_at_call 18; refine (Keys_is hCb).mono ?_; rintro e wc ⟨k1, rfl, o1, bc⟩; have hCc := hCb.below bc; have hRc := hRb.below bc; have hTc := hTb.trans (Tch.of_below bc))
            | (go_at_call 27; refine (R8Keys_is hRc).mono ?_; rw [← hkk.out]; rintro e wd ⟨k2, rfl, o2, bd⟩; have hCd := hCc.below bd; have hRd := hRc.below bd; have hTd := hTc.trans (Tch.of_below bd); have hTx := Texts_same k1 k2 _ wd (o1.below bd).rd o2.rd hlenL)
            | (go_at_call 19; refine hTx.mono ?_; rintro e we ⟨rfl, be⟩; have hCe := hCd.below be; have hRe := hRd.below be; have hTe := hTd.trans (Tch.of_below be); have h1e : we.cell? ⟨rq, 1, none⟩ = some (.int .i64 hi) := held_cell hRe.at_ rfl; have h2e : we.cell? ⟨rq, 2, none⟩ = some (.int .i64 mi) := held_cell hRe.at_ rfl))
          go_ret
          exact ⟨rfl, hi, mi, L, _, _, hCe, hRe, hE, hTe, hN1, hN2⟩
  · by_cases k1 : kd = 1
    · subst k1
      have hkm' : key.size ≤ maxLen := by unfold maxLen; omega
      have hin := hE0.isIn key
      have hval := hE0.val key
      have hE := hE0.bump key
      have hG := Get_is hC1 key hkm'
      have hRG := fun w3 (h3 : Rf w3 B rq li hi mi v l) => R8Get_is h3 key
      simp only [hval, hin] at hRG
      have ib := bool_refl (isIn key L)
      have hvk := valC_len hC0.sh key
      have hvL3 : ∀ g, w.heap.size ≤ g → ∀ e ∈ bump key L, e.sv.ownBlock ≠ some g := fun g hg e he => hvL g hg e (mem_bump he)
      have hvR3 : ∀ g, w.heap.size ≤ g → ∀ x ∈ rbump key l, x.v.ownBlock ≠ some g := fun g hg x hx => hvR g hg x (mem_rbump hx)
      have hN1 : ∀ j, Foot s m (bump key L) j → Foot s m L j ∨ w.heap.size ≤ j := fun j hj => .inl (foot_bump hj)
      generalize (if isIn key L = true then IntKind.i64.wrap (hi + 1) else hi) = hi3 at *
      generalize (if isIn key L = true then mi else IntKind.i64.wrap (mi + 1)) = mi3 at *
      generalize isIn key L = ibv at *
      generalize valC key L = vk at *
      generalize bump key L = L3 at *
      generalize rbump key l = l3 at *
      clear hvL hvR
      have hvL := hvL3
      have hvR := hvR3
      have isr := str_eq (str vk)
      have ir1 := int_refl hi3
      have ir2 := int_refl mi3
      have ir3 := int_refl hi
      have ir4 := int_refl mi
      go_enter Try.func11, Try.ntmps11
      go_wp2_with (first
        | (go_at_call 12; refine hG.mono ?_; rintro e w3 ⟨u3, rfl, o3, hC3, ht3⟩; have hbx3 := hbx.foot hC1.sh ht3; obtain ⟨x0, x1, x2⟩ := hbx3.cells; have hR3 := hR1.touch ht3 (apart' hC1 hR1) hC1.sh.nb)
        | (go_at_call 23; refine (hRG _ hR3).mono ?_; rintro e w5 ⟨u4, v4, rfl, o4, hR5, ht5, hb5⟩; have hC5 := hC3.touch ht5 (apart hC3 hR3) hR3.nb; have o5 := o3.touch ht5 hR3.nb; have hbx5 := hbx3.footR hR3 ht5 (fun j hj => hj); obtain ⟨y0, y1, y2⟩ := hbx5.cells; have cv3 := conv_rd std o5.rd; have cv4 := conv_rd std o4.rd; obtain ⟨A3, c3, rfl, _⟩ := id o5.rd))
      have hT5 := (hT1.trans (ht3.mono fun j hj => .inl hj)).trans (ht5.mono fun j hj => .inr hj)
      have hN2 : ∀ b, v4.ownBlock = some b → v.ownBlock = some b ∨ w.heap.size ≤ b := fun b hb => (hb5 b hb).imp id fun h1 => Nat.le_trans hT1.size (Nat.le_trans ht3.size h1)
      clear hC1 hR1 hE0 hT1 huF huR hbx hu1 o3 o4 hG hRG hin hval hbx3 hbx5 x0 x1 x2 y0 y1 y2 hR3 hC3 ht3 ht5 hb5
      rcases Nat.eq_zero_or_pos vk.length with hv0 | hv0
      · have hT := hT5
        have hCz := hC5
        have hRz := hR5
        clear hT5 hC5 hR5 hvL hvR hC0 hR0 o5 cv3 cv4
        generalize w5 = wq at *
        go_loopw [14] (fun iv wr => iv = .int .i64 0 ∧ Below wq.heap.size wq wr) (fun iv _ => 0)
        case atStart => exact ⟨rfl, Below.refl _ _⟩
        case round =>
          obtain ⟨rfl, hbw⟩ := hrel
          have hC := hCz.below hbw
          have hR := hRz.below hbw
          have hT := hT.trans (Tch.of_below hbw)
          have hlenL : ((L3).map (·.key)).length ≤ 1099511627776 := by rw [List.length_map]; have := hC.sh.len; have := hC.sh.lim; omega
          have hkk := hid hE.keys
          have htt := hid hE.tot
          go_wp2_with (first
            | (go_at_call 14; refine (Hits_is hC).mono ?_; rintro e wa ⟨rfl, ba⟩; have hCa := hC.below ba; have hRa := hR.below ba; have hTa := hT.trans (Tch.of_below ba))
            | (go_at_call 17; refine (Used_is hCa).mono ?_; rintro e wx ⟨rfl, hx⟩; have hx := hx.symm; subst hx)
            | (go_at_call 26; refine (R8Used_is hRa).mono ?_; rw [htt.out]; rintro e wb ⟨rfl, bb⟩; have hCb := hCa.below bb; have hRb := hRa.below bb; have hTb := hTa.trans (Tch.of_below bb))
            | (go_at_call 18; refine (Keys_is hCb).mono ?_; rintro e wc ⟨k1, rfl, o1, bc⟩; have hCc := hCb.below bc; have hRc := hRb.below bc; have hTc := hTb.trans (Tch.of_below bc))
            | (go_at_call 27; refine (R8Keys_is hRc).mono ?_; rw [← hkk.out]; rintro e wd ⟨k2, rfl, o2, bd⟩; have hCd := hCc.below bd; have hRd := hRc.below bd; have hTd := hTc.trans (Tch.of_below bd); have hTx := Texts_same k1 k2 _ wd (o1.below bd).rd o2.rd hlenL)
            | (go_at_call 19; refine hTx.mono ?_; rintro e we ⟨rfl, be⟩; have hCe := hCd.below be; have hRe := hRd.below be; have hTe := hTd.trans (Tch.of_below be); have h1e : we.cell? ⟨rq, 1, none⟩ = some (.int .i64 hi3) := held_cell hRe.at_ rfl; have h2e : we.cell? ⟨rq, 2, none⟩ = some (.int .i64 mi3) := held_cell hRe.at_ rfl))
          go_ret
          exact ⟨rfl, hi3, mi3, L3, _, _, hCe, hRe, hE, hTe, hN1, hN2⟩
      · obtain ⟨gg, cc, hform, hgg, hgl, hgc, hgcell⟩ := o5.form hv0
        have hcur : ∃ cur : Array Value, w5.heap[gg]? = some (.cells cur 5 (0, 0)) ∧ ∀ j, j < vk.length → ∃ x : Int, cur[j]? = some (.int .u8 x) := by
          rcases o5.2 with ⟨h1, _⟩ | ⟨g', cap', cur, h1, _, h3, _⟩
          · rw [hform] at h1; cases h1
          · rw [hform] at h1
            injection h1 with h1 _ _
            injection h1 with h1
            injection h1 with h1
            subst h1
            refine ⟨cur, h3, fun j hj => ?_⟩
            have h5 := hgcell j hj
            rw [cell_of_row _ _ _ _ _ _ h3] at h5
            exact ⟨_, h5⟩
        have hgw : w.heap.size ≤ gg := by omega
        have hCl : ∀ wr (cur : Array Value), wr.heap[gg]? = some (.cells cur 5 (0, 0)) → Tch (· = gg) w5 wr → Ca wr B q s m li (hi3) (mi3) (L3) := fun wr cur _ ht => by
          obtain ⟨cur0, h0, _⟩ := hcur
          exact hC5.bytes h0 ht (fun e he => hvL gg hgw e he)
        have hRl : ∀ wr (cur : Array Value), wr.heap[gg]? = some (.cells cur 5 (0, 0)) → Tch (· = gg) w5 wr → Rf wr B rq li (hi3) (mi3) v4 (l3) := fun wr cur _ ht => by
          obtain ⟨cur0, h0, _⟩ := hcur
          exact hR5.bytes h0 ht (fun e he => hvR gg hgw e he)
        have hTl : ∀ wr, Tch (· = gg) w5 wr → Tch (fun j => Foot s m L j ∨ FootR rq v j) w wr := fun wr ht => hT5.out ht (fun j hj => .inr (by rw [hj]; exact hgw))
        injection hform with hf1 _ hf3
        subst hf1 hf3
        clear hgcell o5 hT5 hC5 hR5 hvL hvR hC0 hR0 cv3 cv4
        generalize w5 = wq at *
        go_loopw [14] (fun iv wr => ∃ i : Nat, iv = .int .i64 i ∧ i ≤ vk.length ∧ Tch (· = gg) wq wr ∧ ∃ cur : Array Value, wr.heap[gg]? = some (.cells cur 5 (0, 0)) ∧ ∀ j, j < vk.length → ∃ x : Int, cur[j]? = some (.int .u8 x)) (fun iv _ => vk.length - (intOf iv).toNat)
        case atStart => exact ⟨0, rfl, Nat.zero_le _, Tch.refl _ _, hcur⟩
        case round =>
          obtain ⟨i, rfl, hii, hti, cur, hcr, hcx⟩ := hrel
          by_cases hil : i < vk.length
          · obtain ⟨x, hx⟩ := hcx i hil
            have p1 : wr.cell? ⟨gg, i, none⟩ = some (.int .u8 x) := held_cell hcr hx
            have p2 : wr.frozen? ⟨gg, i, none⟩ = false := held_frozen hcr
            have hilI : (i : Int) < (vk.length : Int) := by omega
            have hilA : Hid (i < vk.length) := hid hil
            have hnext : Hid (∀ y : Int, Tch (· = gg) wq (wr.setCell ⟨gg, i, none⟩ (.int .u8 y)) ∧ ∃ cur : Array Value, (wr.setCell ⟨gg, i, none⟩ (.int .u8 y)).heap[gg]? = some (.cells cur 5 (0, 0)) ∧ ∀ j, j < vk.length → ∃ x : Int, cur[j]? = some (.int .u8 x)) := hid (fun y => by
              refine ⟨hti.trans (Tch.set _ _ _ _ rfl), _, row_set hcr _, fun j hj => ?_⟩
              by_cases e : j = i
              · have hsz : i < cur.size := (Array.getElem?_eq_some_iff.1 hx).1
                exact ⟨y, by rw [e]; simp [hsz]⟩
              · obtain ⟨x', hx'⟩ := hcx j hj
                exact ⟨x', by rw [Array.getElem?_setIfInBounds_ne (Ne.symm e)]; exact hx'⟩)
            clear hcr hcx hx hti
            go_wp2
            go_roundw
            case rel => exact ⟨i + 1, by go_num, by have := hilA.out; omega, (hnext.out _).1, (hnext.out _).2⟩
            case measure => have := hilA.out; simp [intOf]; omega
          · obtain rfl : i = vk.length := by omega
            have hCt := hCl wr cur hcr hti
            have hRt := hRl wr cur hcr hti
            have hTt := hTl wr hti
            clear hcr hcx hti hCl hRl hTl
            have hC := hCt
            have hR := hRt
            have hT := hTt
            have hlenL : ((L3).map (·.key)).length ≤ 1099511627776 := by rw [List.length_map]; have := hC.sh.len; have := hC.sh.lim; omega
            have hkk := hid hE.keys
            have htt := hid hE.tot
            go_wp2_with (first
              | (go_at_call 14; refine (Hits_is hC).mono ?_; rintro e wa ⟨rfl, ba⟩; have hCa := hC.below ba; have hRa := hR.below ba; have hTa := hT.trans (Tch.of_below ba))
              | (go_at_call 17; refine (Used_is hCa).mono ?_; rintro e wx ⟨rfl, hx⟩; have hx := hx.symm; subst hx)
              | (go_at_call 26; refine (R8Used_is hRa).mono ?_; rw [htt.out]; rintro e wb ⟨rfl, bb⟩; have hCb := hCa.below bb; have hRb := hRa.below bb; have hTb := hTa.trans (Tch.of_below bb))
              | (go_at_call 18; refine (Keys_is hCb).mono ?_; rintro e wc ⟨k1, rfl, o1, bc⟩; have hCc := hCb.below bc; have hRc := hRb.below bc; have hTc := hTb.trans (Tch.of_below bc))
              | (go_at_call 27; refine (R8Keys_is hRc).mono ?_; rw [← hkk.out]; rintro e wd ⟨k2, rfl, o2, bd⟩; have hCd := hCc.below bd; have hRd := hRc.below bd; have hTd := hTc.trans (Tch.of_below bd); have hTx := Texts_same k1 k2 _ wd (o1.below bd).rd o2.rd hlenL)
              | (go_at_call 19; refine hTx.mono ?_; rintro e we ⟨rfl, be⟩; have hCe := hCd.below be; have hRe := hRd.below be; have hTe := hTd.trans (Tch.of_below be); have h1e : we.cell? ⟨rq, 1, none⟩ = some (.int .i64 hi3) := held_cell hRe.at_ rfl; have h2e : we.cell? ⟨rq, 2, none⟩ = some (.int .i64 mi3) := held_cell hRe.at_ rfl))
            go_ret
            exact ⟨rfl, hi3, mi3, L3, _, _, hCe, hRe, hE, hTe, hN1, hN2⟩
    · by_cases k2 : kd = 2
      · subst k2
        have hkm' : key.size ≤ maxLen := by unfold maxLen; omega
        have hin := hE0.isIn key
        have hval := hE0.val key
        have hE := hE0
        have hPk := Peek_is hC1 key hkm'
        have hRk := fun w3 (b3 : Below W1.heap.size W1 w3) => R8Peek_is (hR1.below b3) key
        have ir1 := int_refl hi
        have ir2 := int_refl mi
        have ib := bool_refl (isIn key L)
        have hN1 : ∀ j, Foot s m L j → Foot s m L j ∨ w.heap.size ≤ j := fun j hj => .inl hj
        have hN2 : ∀ b, v.ownBlock = some b → v.ownBlock = some b ∨ w.heap.size ≤ b := fun b hb => .inl hb
        rw [hval, hin] at hRk
        have hvk := valC_len hC0.sh key
        generalize isIn key L = ibv at *
        generalize valC key L = vk at *
        have isr := str_eq (str vk)
        go_enter Try.func11, Try.ntmps11
        go_wp2_with (first
          | (go_at_call 13; refine hPk.mono ?_; rintro e w3 ⟨u3, rfl, o3, b3⟩; obtain ⟨x0, x1, x2⟩ := (hbx.below b3).cells)
          | (go_at_call 24; refine (hRk _ b3).mono ?_; rintro e w5 ⟨u4, rfl, o4, hw5⟩; have hw5 := hw5.symm; subst hw5; have cv3 := conv_rd std o3.rd; have cv4 := conv_rd std o4.rd; obtain ⟨A3, c3, rfl, _⟩ := id o3.rd))
        have o5 := o3
        have hC5 := hC1.below b3
        have hR5 := hR1.below b3
        have hT5 := hT1.trans (Tch.of_below b3)
        clear hC1 hR1 hE0 hT1 huF huR hbx hu1 o3 o4 hPk hRk hin hval b3 x0 x1 x2
        generalize w3 = w5 at *
        rcases Nat.eq_zero_or_pos vk.length with hv0 | hv0
        · have hT := hT5
          have hCz := hC5
          have hRz := hR5
          clear hT5 hC5 hR5 hvL hvR hC0 hR0 o5 cv3 cv4
          generalize w5 = wq at *
          go_loopw [14] (fun iv wr => iv = .int .i64 0 ∧ Below wq.heap.size wq wr) (fun iv _ => 0)
          case atStart => exact ⟨rfl, Below.refl _ _⟩
          case round =>
            obtain ⟨rfl, hbw⟩ := hrel
            have hC := hCz.below hbw
            have hR := hRz.below hbw
            have hT := hT.trans (Tch.of_below hbw)
            have hlenL : ((L).map (·.key)).length ≤ 1099511627776 := by rw [List.length_map]; have := hC.sh.len; have := hC.sh.lim; omega
            have hkk := hid hE.keys
            have htt := hid hE.tot
            go_wp2_with (first
              | (go_at_call 14; refine (Hits_is hC).mono ?_; rintro e wa ⟨rfl, ba⟩; have hCa := hC.below ba; have hRa := hR.below ba; have hTa := hT.trans (Tch.of_below ba))
              | (go_at_call 17; refine (Used_is hCa).mono ?_; rintro e wx ⟨rfl, hx⟩; have hx := hx.symm; subst hx)
              | (go_at_call 26; refine (R8Used_is hRa).mono ?_; rw [htt.out]; rintro e wb ⟨rfl, bb⟩; have hCb := hCa.below bb; have hRb := hRa.below bb; have hTb := hTa.trans (Tch.of_below bb))
              | (go_at_call 18; refine (Keys_is hCb).mono ?_; rintro e wc ⟨k1, rfl, o1, bc⟩; have hCc := hCb.below bc; have hRc := hRb.below bc; have hTc := hTb.trans (Tch.of_below bc))
              | (go_at_call 27; refine (R8Keys_is hRc).mono ?_; rw [← hkk.out]; rintro e wd ⟨k2, rfl, o2, bd⟩; have hCd := hCc.below bd; have hRd := hRc.below bd; have hTd := hTc.trans (Tch.of_below bd); have hTx := Texts_same k1 k2 _ wd (o1.below bd).rd o2.rd hlenL)
              | (go_at_call 19; refine hTx.mono ?_; rintro e we ⟨rfl, be⟩; have hCe := hCd.below be; have hRe := hRd.below be; have hTe := hTd.trans (Tch.of_below be); have h1e : we.cell? ⟨rq, 1, none⟩ = some (.int .i64 hi) := held_cell hRe.at_ rfl; have h2e : we.cell? ⟨rq, 2, none⟩ = some (.int .i64 mi) := held_cell hRe.at_ rfl))
            go_ret
            exact ⟨rfl, hi, mi, L, _, _, hCe, hRe, hE, hTe, hN1, hN2⟩
        · obtain ⟨gg, cc, hform, hgg, hgl, hgc, hgcell⟩ := o5.form hv0
          have hcur : ∃ cur : Array Value, w5.heap[gg]? = some (.cells cur 5 (0, 0)) ∧ ∀ j, j < vk.length → ∃ x : Int, cur[j]? = some (.int .u8 x) := by
            rcases o5.2 with ⟨h1, _⟩ | ⟨g', cap', cur, h1, _, h3, _⟩
            · rw [hform] at h1; cases h1
            · rw [hform] at h1
              injection h1 with h1 _ _
              injection h1 with h1
              injection h1 with h1
              subst h1
              refine ⟨cur, h3, fun j hj => ?_⟩
              have h5 := hgcell j hj
              rw [cell_of_row _ _ _ _ _ _ h3] at h5
              exact ⟨_, h5⟩
          have hgw : w.heap.size ≤ gg := by omega
          have hCl : ∀ wr (cur : Array Value), wr.heap[gg]? = some (.cells cur 5 (0, 0)) → Tch (· = gg) w5 wr → Ca wr B q s m li (hi) (mi) (L) := fun wr cur _ ht => by
            obtain ⟨cur0, h0, _⟩ := hcur
            exact hC5.bytes h0 ht (fun e he => hvL gg hgw e he)
          have hRl : ∀ wr (cur : Array Value), wr.heap[gg]? = some (.cells cur 5 (0, 0)) → Tch (· = gg) w5 wr → Rf wr B rq li (hi) (mi) v (l) := fun wr cur _ ht => by
            obtain ⟨cur0, h0, _⟩ := hcur
            exact hR5.bytes h0 ht (fun e he => hvR gg hgw e he)
          have hTl : ∀ wr, Tch (· = gg) w5 wr → Tch (fun j => Foot s m L j ∨ FootR rq v j) w wr := fun wr ht => hT5.out ht (fun j hj => .inr (by rw [hj]; exact hgw))
          injection hform with hf1 _ hf3
          subst hf1 hf3
          clear hgcell o5 hT5 hC5 hR5 hvL hvR hC0 hR0 cv3 cv4
          generalize w5 = wq at *
          go_loopw [14] (fun iv wr => ∃ i : Nat, iv = .int .i64 i ∧ i ≤ vk.length ∧ Tch (· = gg) wq wr ∧ ∃ cur : Array Value, wr.heap[gg]? = some (.cells cur 5 (0, 0)) ∧ ∀ j, j < vk.length → ∃ x : Int, cur[j]? = some (.int .u8 x)) (fun iv _ => vk.length - (intOf iv).toNat)
          case atStart => exact ⟨0, rfl, Nat.zero_le _, Tch.refl _ _, hcur⟩
          case round =>
            obtain ⟨i, rfl, hii, hti, cur, hcr, hcx⟩ := hrel
            by_cases hil : i < vk.length
            · obtain ⟨x, hx⟩ := hcx i hil
              have p1 : wr.cell? ⟨gg, i, none⟩ = some (.int .u8 x) := held_cell hcr hx
              have p2 : wr.frozen? ⟨gg, i, none⟩ = false := held_frozen hcr
              have hilI : (i : Int) < (vk.length : Int) := by omega
              have hilA : Hid (i < vk.length) := hid hil
              have hnext : Hid (∀ y : Int, Tch (· = gg) wq (wr.setCell ⟨gg, i, none⟩ (.int .u8 y)) ∧ ∃ cur : Array Value, (wr.setCell ⟨gg, i, none⟩ (.int .u8 y)).heap[gg]? = some (.cells cur 5 (0, 0)) ∧ ∀ j, j < vk.length → ∃ x : Int, cur[j]? = some (.int .u8 x)) := hid (fun y => by
                refine ⟨hti.trans (Tch.set _ _ _ _ rfl), _, row_set hcr _, fun j hj => ?_⟩
                by_cases e : j = i
                · have hsz : i < cur.size := (Array.getElem?_eq_some_iff.1 hx).1
                  exact ⟨y, by rw [e]; simp [hsz]⟩
                · obtain ⟨x', hx'⟩ := hcx j hj
                  exact ⟨x', by rw [Array.getElem?_setIfInBounds_ne (Ne.symm e)]; exact hx'⟩)
              clear hcr hcx hx hti
              go_wp2
              go_roundw
              case rel => exact ⟨i + 1, by go_num, by have := hilA.out; omega, (hnext.out _).1, (hnext.out _).2⟩
              case measure => have := hilA.out; simp [intOf]; omega
            · obtain rfl : i = vk.length := by omega
              have hCt := hCl wr cur hcr hti
              have hRt := hRl wr cur hcr hti
              have hTt := hTl wr hti
              clear hcr hcx hti hCl hRl hTl
              have hC := hCt
              have hR := hRt
              have hT := hTt
              have hlenL : ((L).map (·.key)).length ≤ 1099511627776 := by rw [List.length_map]; have := hC.sh.len; have := hC.sh.lim; omega
              have hkk := hid hE.keys
              have htt := hid hE.tot
              go_wp2_with (first
                | (go_at_call 14; refine (Hits_is hC).mono ?_; rintro e wa ⟨rfl, ba⟩; have hCa := hC.below ba; have hRa := hR.below ba; have hTa := hT.trans (Tch.of_below ba))
                | (go_at_call 17; refine (Used_is hCa).mono ?_; rintro e wx ⟨rfl, hx⟩; have hx := hx.symm; subst hx)
                | (go_at_call 26; refine (R8Used_is hRa).mono ?_; rw [htt.out]; rintro e wb ⟨rfl, bb⟩; have hCb := hCa.below bb; have hRb := hRa.below bb; have hTb := hTa.trans (Tch.of_below bb))
                | (go_at_call 18; refine (Keys_is hCb).mono ?_; rintro e wc ⟨k1, rfl, o1, bc⟩; have hCc := hCb.below bc; have hRc := hRb.below bc; have hTc := hTb.trans (Tch.of_below bc))
                | (go_at_call 27; refine (R8Keys_is hRc).mono ?_; rw [← hkk.out]; rintro e wd ⟨k2, rfl, o2, bd⟩; have hCd := hCc.below bd; have hRd := hRc.below bd; have hTd := hTc.trans (Tch.of_below bd); have hTx := Texts_same k1 k2 _ wd (o1.below bd).rd o2.rd hlenL)
                | (go_at_call 19; refine hTx.mono ?_; rintro e we ⟨rfl, be⟩; have hCe := hCd.below be; have hRe := hRd.below be; have hTe := hTd.trans (Tch.of_below be); have h1e : we.cell? ⟨rq, 1, none⟩ = some (.int .i64 hi) := held_cell hRe.at_ rfl; have h2e : we.cell? ⟨rq, 2, none⟩ = some (.int .i64 mi) := held_cell hRe.at_ rfl))
              go_ret
              exact ⟨rfl, hi, mi, L, _, _, hCe, hRe, hE, hTe, hN1, hN2⟩
      · by_cases k3 : kd = 3
        · subst k3
          have hkm' : key.size ≤ maxLen := by unfold maxLen; omega
          have hin := hE0.isIn key
          have hE := hE0.del key
          have mkS : ∀ w', Bx w' w.heap.size ⟨3, key, A, c, bs⟩ → w'.cell? ⟨w.heap.size, 1, none⟩ = some (.string key) := fun w' h => h.cells.2.1
          have hk0 := mkS _ (show Bx W1.drew w.heap.size ⟨3, key, A, c, bs⟩ from hbx)
          have hDr := fun w2 (b2 : Below W1.heap.size W1 w2) => Drop_is (hC1.below b2) key hkm'
          have ir1 := int_refl hi
          have ir2 := int_refl mi
          go_enter Try.func11, Try.ntmps11
          go_wp2_with fail
          go_region_held3 (fun w' => w'.cell? ⟨w.heap.size, 1, none⟩ = some (.string key)) (exact hk0)
            (first
              | (go_at_call 16; refine (hDr _ (by first | exact Below.refl _ _ | exact (Below.refl _ W1).drew)).mono ?_; rintro e w3 ⟨rfl, hC3, ht3⟩; have ht3 : Tch (Foot s m L) W1 w3 := (Tch.drew _ W1).trans ht3; have hbx3 := hbx.foot hC1.sh ht3; have hk0 := mkS _ hbx3; have hR3 := hR1.touch ht3 (apart' hC1 hR1) hC1.sh.nb)
              | (go_at_call 25; refine (R8Drop_is hR3 key).mono ?_; rw [hin]; rintro e w4 ⟨rfl, v4, hR4, ht4, hb4⟩; have hC4 := hC3.touch ht4 (fun j hj => apart hC3 hR3 j (.inl hj)) (fun j hj => hR3.nb j (.inl hj)); have hbx4 := hbx3.footR hR3 ht4 (fun j hj => .inl hj); have hk0 := mkS _ hbx4))
          have ib := bool_refl (isIn key L)
          have hC := hC4
          have hR := hR4
          have hT := (hT1.trans (ht3.mono fun j hj => .inl hj)).trans (ht4.mono fun j hj => .inr (.inl hj))
          have hN1 : ∀ j, Foot s m (del key L) j → Foot s m L j ∨ w.heap.size ≤ j := fun j hj => .inl (foot_del hj)
          have hN2 : ∀ b, v4.ownBlock = some b → v.ownBlock = some b ∨ w.heap.size ≤ b := fun b hb => (hb4 b hb).imp id fun h1 => Nat.le_trans hT1.size (Nat.le_trans ht3.size h1)
          clear hC0 hR0 hC1 hR1 hE0 hT1 hvL hvR huF huR hbx hu1 hbx3 hbx4 hC3 hR3 hC4 hR4 ht3 ht4 hb4 hin mkS hDr
          generalize isIn key L = ibv at *
          generalize del key L = L3 at *
          generalize rdel key l = l3 at *
          have hlenL : ((L3).map (·.key)).length ≤ 1099511627776 := by rw [List.length_map]; have := hC.sh.len; have := hC.sh.lim; omega
          have hkk := hid hE.keys
          have htt := hid hE.tot
          go_wp2_with (first
            | (go_at_call 14; refine (Hits_is hC).mono ?_; rintro e wa ⟨rfl, ba⟩; have hCa := hC.below ba; have hRa := hR.below ba; have hTa := hT.trans (Tch.of_below ba))
            | (go_at_call 17; refine (Used_is hCa).mono ?_; rintro e wx ⟨rfl, hx⟩; have hx := hx.symm; subst hx)
            | (go_at_call 26; refine (R8Used_is hRa).mono ?_; rw [htt.out]; rintro e wb ⟨rfl, bb⟩; have hCb := hCa.below bb; have hRb := hRa.below bb; have hTb := hTa.trans (Tch.of_below bb))
            | (go_at_call 18; refine (Keys_is hCb).mono ?_; rintro e wc ⟨k1, rfl, o1, bc⟩; have hCc := hCb.below bc; have hRc := hRb.below bc; have hTc := hTb.trans (Tch.of_below bc))
            | (go_at_call 27; refine (R8Keys_is hRc).mono ?_; rw [← hkk.out]; rintro e wd ⟨k2, rfl, o2, bd⟩; have hCd := hCc.below bd; have hRd := hRc.below bd; have hTd := hTc.trans (Tch.of_below bd); have hTx := Texts_same k1 k2 _ wd (o1.below bd).rd o2.rd hlenL)
            | (go_at_call 19; refine hTx.mono ?_; rintro e we ⟨rfl, be⟩; have hCe := hCd.below be; have hRe := hRd.below be; have hTe := hTd.trans (Tch.of_below be); have h1e : we.cell? ⟨rq, 1, none⟩ = some (.int .i64 hi) := held_cell hRe.at_ rfl; have h2e : we.cell? ⟨rq, 2, none⟩ = some (.int .i64 mi) := held_cell hRe.at_ rfl))
          go_ret
          exact ⟨rfl, hi, mi, L3, _, _, hCe, hRe, hE, hTe, hN1, hN2⟩
        · have e0 : (kd == 0) = false := by simpa using k0
          have e1 : (kd == 1) = false := by simpa using k1
          have e2 : (kd == 2) = false := by simpa using k2
          have e3 : (kd == 3) = false := by simpa using k3
          have hC := hC1
          have hR := hR1
          have hE := hE0
          have hT := hT1
          have hN1 : ∀ j, Foot s m L j → Foot s m L j ∨ w.heap.size ≤ j := fun j hj => .inl hj
          have hN2 : ∀ b, v.ownBlock = some b → v.ownBlock = some b ∨ w.heap.size ≤ b := fun b hb => .inl hb
          have ir1 := int_refl hi
          have ir2 := int_refl mi
          clear hC0 hR0 hC1 hR1 hE0 hT1 hvL hvR huF huR hbx hu1
          go_enter Try.func11, Try.ntmps11
          have hlenL : ((L).map (·.key)).length ≤ 1099511627776 := by rw [List.length_map]; have := hC.sh.len; have := hC.sh.lim; omega
          have hkk := hid hE.keys
          have htt := hid hE.tot
          go_wp2_with (first
            | (go_at_call 14; refine (Hits_is hC).mono ?_; rintro e wa ⟨rfl, ba⟩; have hCa := hC.below ba; have hRa := hR.below ba; have hTa := hT.trans (Tch.of_below ba))
            | (go_at_call 17; refine (Used_is hCa).mono ?_; rintro e wx ⟨rfl, hx⟩; have hx := hx.symm; subst hx)
            | (go_at_call 26; refine (R8Used_is hRa).mono ?_; rw [htt.out]; rintro e wb ⟨rfl, bb⟩; have hCb := hCa.below bb; have hRb := hRa.below bb; have hTb := hTa.trans (Tch.of_below bb))
            | (go_at_call 18; refine (Keys_is hCb).mono ?_; rintro e wc ⟨k1, rfl, o1, bc⟩; have hCc := hCb.below bc; have hRc := hRb.below bc; have hTc := hTb.trans (Tch.of_below bc))
            | (go_at_call 27; refine (R8Keys_is hRc).mono ?_; rw [← hkk.out]; rintro e wd ⟨k2, rfl, o2, bd⟩; have hCd := hCc.below bd; have hRd := hRc.below bd; have hTd := hTc.trans (Tch.of_below bd); have hTx := Texts_same k1 k2 _ wd (o1.below bd).rd o2.rd hlenL)
            | (go_at_call 19; refine hTx.mono ?_; rintro e we ⟨rfl, be⟩; have hCe := hCd.below be; have hRe := hRd.below be; have hTe := hTd.trans (Tch.of_below be); have h1e : we.cell? ⟨rq, 1, none⟩ = some (.int .i64 hi) := held_cell hRe.at_ rfl; have h2e : we.cell? ⟨rq, 2, none⟩ = some (.int .i64 mi) := held_cell hRe.at_ rfl))
          go_ret
          exact ⟨rfl, hi, mi, L, _, _, hCe, hRe, hE, hTe, hN1, hN2⟩
end Go.Proofs.Ytflhgoecmcfkkaa
