/-
  What a decoder answers: of numbers and texts as they were written, just those; at the end none is left. Conditions: the decoder's three cells, its bytes in another block.
-/
import Derived.Test.YtpcmonebihgjhaaRdWalk
namespace Go.Icy
open Go.RowKit
/-- The slice v reads as the bytes l, which lie in block b0. -/
def RdAt (w : World) (b0 : Nat) (v : Value) (l : List Nat) : Prop :=
  ∃ A c, v = .slice A l.length c ∧ l.length ≤ c ∧ (0 < l.length → ∃ off, A = some ⟨b0, off, none⟩ ∧ b0 < w.heap.size ∧ ∀ j (hj : j < l.length), w.cell? ⟨b0, off + j, none⟩ = some (.int .u8 (l[j] : Int)))
theorem RdAt.rd {w : World} {b0 : Nat} {v : Value} {l : List Nat} (h : RdAt w b0 v l) : Rd w v l := by
  obtain ⟨A, c, hv, hc, hr⟩ := h
  refine ⟨A, c, hv, hc, fun h0 => ?_⟩
  obtain ⟨off, hA, hlt, hcell⟩ := hr h0
  exact ⟨b0, off, hA, hlt, hcell⟩
theorem RdAt.zero (w : World) (b0 : Nat) (A : Option Addr) (c : Nat) : RdAt w b0 (.slice A 0 c) [] := ⟨A, c, rfl, Nat.zero_le _, fun h => absurd h (by simp)⟩
theorem Rd.sub {w : World} {b off c : Nat} {l : List Nat} (h : Rd w (.slice (some ⟨b, off, none⟩) l.length c) l) (lo n c' : Nat) (hn : lo + n ≤ l.length) (hc : n ≤ c') : Rd w (.slice (some ⟨b, off + lo, none⟩) n c') ((l.drop lo).take n) := by
  obtain ⟨A, c2, hv, _, hr⟩ := h
  injection hv with hA _ hc2
  subst hA
  have hlen : ((l.drop lo).take n).length = n := by simp; omega
  refine ⟨_, c', by rw [hlen], by omega, fun h0 => ?_⟩
  obtain ⟨b', off', e, hlt, hcell⟩ := hr (by omega)
  injection e with e
  injection e with e1 e2
  subst e1 e2
  refine ⟨b, off + lo, rfl, hlt, fun j hj => ?_⟩
  rw [Nat.add_assoc, hcell (lo + j) (by omega)]
  simp
theorem Rd.zero (w : World) (A : Option Addr) (c : Nat) : Rd w (.slice A 0 c) [] := ⟨A, c, rfl, Nat.zero_le _, fun h => absurd h (by simp)⟩
theorem RdAt.setCell {w : World} {b0 : Nat} {v : Value} {l : List Nat} (h : RdAt w b0 v l) {p : Addr} (hp : b0 ≠ p.block) (u : Value) : RdAt (w.setCell p u) b0 v l := by
  obtain ⟨A, c, hv, hc, hr⟩ := h
  refine ⟨A, c, hv, hc, fun h0 => ?_⟩
  obtain ⟨off, hA, hlt, hcell⟩ := hr h0
  exact ⟨off, hA, by simpa [World.setCell] using hlt, fun j hj => (World.cell?_setCell_other w p ⟨b0, off + j, none⟩ u (fun e => hp (by rw [e]))).trans (hcell j hj)⟩
theorem RdAt.alloc {w : World} {b0 : Nat} {v : Value} {l : List Nat} (h : RdAt w b0 v l) (o : Obj) : RdAt (w.alloc o) b0 v l := by
  obtain ⟨A, c, hv, hc, hr⟩ := h
  refine ⟨A, c, hv, hc, fun h0 => ?_⟩
  obtain ⟨off, hA, hlt, hcell⟩ := hr h0
  exact ⟨off, hA, by simp; omega, fun j hj => (World.cell?_alloc_lt w o ⟨b0, off + j, none⟩ hlt).trans (hcell j hj)⟩
theorem RdAt.drop {w : World} {b0 off n c : Nat} {l : List Nat} (h : RdAt w b0 (.slice (some ⟨b0, off, none⟩) n c) l) (lo c' : Nat) (hn : lo ≤ l.length) (hc : l.length - lo ≤ c') : RdAt w b0 (.slice (some ⟨b0, off + lo, none⟩) (l.length - lo) c') (l.drop lo) := by
  obtain ⟨A, c2, hv, _, hr⟩ := h
  injection hv with hA _ hc2
  subst hA
  have hlen : (l.drop lo).length = l.length - lo := by simp
  refine ⟨_, c', by rw [hlen], by omega, fun h0 => ?_⟩
  obtain ⟨off', e, hlt, hcell⟩ := hr (by omega)
  injection e with e
  injection e with _ e2
  subst e2
  refine ⟨off + lo, rfl, hlt, fun j hj => ?_⟩
  rw [Nat.add_assoc, hcell (lo + j) (by omega)]
  simp
end Go.Icy
namespace Go.Proofs.Ytpcmonebihgjhaa
open Go.RowKit Go.Icy

theorem neg_half {x : Int} {z : Nat} (he : (z : Int) = -2 * x - 1) (h0 : -36028797018963968 ≤ x) (_h1 : x < 36028797018963968) : wrap64 ((-((z : Int) + 1)).tdiv 2) = x := by
  have e : -((z : Int) + 1) = 2 * x := by omega
  rw [e, Int.mul_tdiv_cancel_left x (by omega)]
  exact IntWalk.wrap64_in _ ⟨by omega, by omega⟩
set_option maxHeartbeats 400000 in
theorem readSigned_num (x : Int) (v : Value) (R : List Nat) (w : World) (h0 : -36028797018963968 ≤ x) (h1 : x < 36028797018963968) (hv : Rd w v (num (zig x) ++ R)) (hR : ∀ c ∈ R, c < 256) (hlen : (num (zig x) ++ R).length ≤ 9223372036854775807) :
    Calls Try.prog 26 #[v] w fun e w' => e = .returned (.tuple #[.int .i64 x, .int .i64 ((num (zig x)).length : Int), .int .i64 0]) ∧ w = w' := by
  have H := readNumber_any v (num (zig x) ++ R) w hv (by
    intro c hc
    rcases List.mem_append.1 hc with h | h
    · exact num_lt _ c h
    · exact hR c h) hlen
  rw [rdn_num R (zig_lt h0 h1)] at H
  have HH := hid H
  have hz := zig_lt h0 h1
  have hd : (x < 0 ∧ (zig x : Int) = -2 * x - 1) ∨ (0 ≤ x ∧ (zig x : Int) = 2 * x) := by
    rcases Int.lt_or_le x 0 with h | h
    · exact .inl ⟨h, zig_neg h⟩
    · exact .inr ⟨h, zig_pos h⟩
  generalize zig x = z at *
  generalize (num z).length = nl at *
  clear H hv hlen
  rcases hd with ⟨hx, he⟩ | ⟨hx, he⟩
  · have hodd : ((z : Int) % 2 == 1) = true := by rw [beq_iff_eq]; omega
    have HE := hid (neg_half he h0 h1)
    clear he
    go_enter Try.func26, Try.ntmps26
    go_wp2_with (go_at_call 25; refine HH.out.mono ?_; rintro e w' ⟨rfl, rfl⟩)
    go_ret3
    rw [← HE.out]
    exact ⟨rfl, rfl⟩
  · have hodd : ((z : Int) % 2 == 1) = false := by rw [beq_eq_false_iff_ne]; omega
    have HE := hid (show (z : Int) / 2 = x by omega)
    clear he
    go_enter Try.func26, Try.ntmps26
    go_wp2_with (go_at_call 25; refine HH.out.mono ?_; rintro e w' ⟨rfl, rfl⟩)
    go_ret3
    rw [← HE.out]
    exact ⟨rfl, rfl⟩

set_option maxRecDepth 100000 in
set_option maxHeartbeats 400000 in
theorem readText_txt (s : ByteArray) (v : Value) (R : List Nat) (w : World) (hs : s.size ≤ 65536) (hv : Rd w v (txt s ++ R)) (hR : ∀ c ∈ R, c < 256) (hlen : (txt s ++ R).length ≤ 4611686018427387904) :
    Calls Try.prog 28 #[v] w fun e w' => e = .returned (.tuple #[.string s, .int .i64 ((txt s).length : Int), .int .i64 0]) ∧ w = w' := by
  have hnum : s.size < 72057594037927936 := by omega
  have H := readNumber_any v (txt s ++ R) w hv (by
    intro c hc
    rcases List.mem_append.1 hc with h | h
    · rcases List.mem_append.1 h with h | h
      · exact num_lt _ c h
      · exact nats_lt s c h
    · exact hR c h) (by omega)
  have hT : txt s ++ R = num s.size ++ (nats s ++ R) := by rw [txt, List.append_assoc]
  have hTl : (txt s ++ R).length = (num s.size).length + s.size + R.length := by rw [hT]; simp [nats_len]; omega
  have htl : (txt s).length = (num s.size).length + s.size := by simp [txt, nats_len]
  have h8 := num_len8 hnum
  have hp := num_pos s.size
  rw [show rdn (txt s ++ R) = (s.size, (num s.size).length, 0) by rw [hT]; exact rdn_num _ hnum] at H
  have HH := hid H
  have hv0 := hv
  obtain ⟨A, c, rfl, hc, hrd⟩ := hv
  obtain ⟨b, off, rfl, _, _⟩ := hrd (by omega)
  have hsub := fun c' (h : s.size ≤ c') => hv0.sub (num s.size).length s.size c' (by omega) h
  have e1 : ((txt s ++ R).drop (num s.size).length).take s.size = nats s := by rw [hT, List.drop_left, ← nats_len s, List.take_left]
  rw [e1] at hsub
  have hcv := fun c' (h : s.size ≤ c') => conv_rd std (hsub c' h)
  rw [str_nats] at hcv
  have hz0 : s.size = 0 → str [] = s := fun h => by
    have h1 : nats s = [] := List.eq_nil_of_length_eq_zero (by rw [nats_len]; exact h)
    have h2 := str_nats s
    rwa [h1] at h2
  rw [hTl] at hc HH hlen ⊢
  rw [htl]
  generalize (num s.size).length = nl at *
  generalize s.size = sz at *
  generalize hLL : nl + sz + R.length = LL at *
  have hLL2 : nl + sz ≤ LL := by omega
  have hc1 := hcv (c - nl) (by omega)
  clear hv0 hrd H hT hTl htl hsub e1 hcv hLL
  have hgt : ¬ ((LL : Int) - (nl : Int) < (sz : Int)) := by omega
  by_cases hcn : c = nl
  · obtain rfl : sz = 0 := by omega
    subst hcn
    have hcz := conv_rd std (Rd.zero w (some ⟨b, off, none⟩) 0)
    rw [hz0 rfl] at hcz
    clear hz0
    go_enter Try.func28, Try.ntmps28
    go_wp2_with (go_at_call 25; refine HH.out.mono ?_; rintro e w' ⟨rfl, rfl⟩)
    go_ret3
    exact ⟨rfl, rfl⟩
  · clear hz0
    go_enter Try.func28, Try.ntmps28
    go_wp2_with (go_at_call 25; refine HH.out.mono ?_; rintro e w' ⟨rfl, rfl⟩)
    go_ret3
    exact ⟨rfl, rfl⟩

/-- A decoder's three cells in block g; its bytes l in another block. -/
def DecAt (w : World) (g : Nat) (l : List Nat) : Prop :=
  ∃ v b0, b0 ≠ g ∧ w.cell? ⟨g, 0, none⟩ = some (.bool true) ∧ w.cell? ⟨g, 1, none⟩ = some v ∧ w.cell? ⟨g, 2, none⟩ = some (.int .i64 0) ∧ w.frozen? ⟨g, 1, none⟩ = false ∧ RdAt w b0 v l
/-- It answers x, and its block alone has turned: the bytes l are left. -/
def Took (w : World) (g : Nat) (x : Value) (l : List Nat) (e : Ending) (w' : World) : Prop :=
  ∃ v', e = .returned x ∧ w' = w.setCell ⟨g, 1, none⟩ v' ∧ DecAt w' g l
theorem DecAt.set_ {w : World} {g b0 : Nat} {v v' : Value} {l : List Nat} (hb : b0 ≠ g) (h0 : w.cell? ⟨g, 0, none⟩ = some (.bool true)) (h1 : w.cell? ⟨g, 1, none⟩ = some v) (h2 : w.cell? ⟨g, 2, none⟩ = some (.int .i64 0)) (hf : w.frozen? ⟨g, 1, none⟩ = false)
    (hr : RdAt w b0 v' l) : DecAt (w.setCell ⟨g, 1, none⟩ v') g l := by
  refine ⟨v', b0, hb, ?_, ?_, ?_, ?_, hr.setCell hb v'⟩
  · rw [World.cell?_setCell_other _ _ _ _ (by simp)]; exact h0
  · exact World.cell?_setCell_same' w _ v' (by rw [h1]; rfl)
  · rw [World.cell?_setCell_other _ _ _ _ (by simp)]; exact h2
  · simpa using hf

theorem Err_dec (g : Nat) (w : World) (h0 : w.cell? ⟨g, 0, none⟩ = some (.bool true)) (h2 : w.cell? ⟨g, 2, none⟩ = some (.int .i64 0)) : Calls Try.prog 16 #[.pointer (some ⟨g, 0, none⟩)] w fun e w' => e = .returned (.int .i64 0) ∧ w = w' := by
  go_enter Try.func16, Try.ntmps16
  go_wp2
  go_ret
  exact ⟨rfl, rfl⟩

set_option maxRecDepth 100000 in
set_option maxHeartbeats 400000 in
theorem Signed_dec (x : Int) (R : List Nat) (g : Nat) (w : World) (h0 : -36028797018963968 ≤ x) (h1 : x < 36028797018963968) (hR : ∀ c ∈ R, c < 256) (hlen : (num (zig x) ++ R).length ≤ 4611686018427387904) (hd : DecAt w g (num (zig x) ++ R)) :
    Calls Try.prog 13 #[.pointer (some ⟨g, 0, none⟩)] w (Took w g (.int .i64 x) R) := by
  obtain ⟨v, b0, hb0, c0, c1, c2, hf, hr⟩ := hd
  have HS := hid (readSigned_num x v R w h0 h1 hr.rd hR (by omega))
  have hp := num_pos (zig x)
  have hLn : (num (zig x) ++ R).length = (num (zig x)).length + R.length := List.length_append
  have hdrop : (num (zig x) ++ R).drop (num (zig x)).length = R := List.drop_left
  obtain ⟨A, c, rfl, hc, hrd⟩ := hr
  obtain ⟨off, rfl, hlt, hcell⟩ := hrd (by omega)
  have hr2 : RdAt w b0 (.slice (some ⟨b0, off, none⟩) (num (zig x) ++ R).length c) (num (zig x) ++ R) := ⟨_, c, rfl, hc, fun _ => ⟨off, rfl, hlt, hcell⟩⟩
  have hsub := fun c' (h : (num (zig x) ++ R).length - (num (zig x)).length ≤ c') => hr2.drop (num (zig x)).length c' (by omega) h
  rw [hdrop] at hsub
  have HSUB := hid hsub
  have HRL := hid (show (num (zig x) ++ R).length - (num (zig x)).length = 0 → R = [] from fun h => List.eq_nil_of_length_eq_zero (by omega))
  clear hrd hcell hr2 hsub hdrop
  generalize (num (zig x) ++ R).length = LL at *
  generalize (num (zig x)).length = nl at *
  have hLL : nl ≤ LL := by omega
  clear hLn
  by_cases hcn : c = nl
  · obtain rfl : LL = nl := by omega
    subst hcn
    have HR0 := hid (HRL.out (by omega))
    go_enter Try.func13, Try.ntmps13
    go_wp2_with (first
      | (go_at_call 16; refine (Err_dec _ _ c0 c2).mono ?_; rintro e w' ⟨rfl, rfl⟩)
      | (go_at_call 26; refine HS.out.mono ?_; rintro e w' ⟨rfl, rfl⟩)
      | go_in)
    go_ret
    exact ⟨_, rfl, rfl, DecAt.set_ hb0 c0 c1 c2 hf (by rw [HR0.out]; exact RdAt.zero _ _ _ _)⟩
  · go_enter Try.func13, Try.ntmps13
    go_wp2_with (first
      | (go_at_call 16; refine (Err_dec _ _ c0 c2).mono ?_; rintro e w' ⟨rfl, rfl⟩)
      | (go_at_call 26; refine HS.out.mono ?_; rintro e w' ⟨rfl, rfl⟩)
      | go_in)
    go_ret
    exact ⟨_, rfl, rfl, DecAt.set_ hb0 c0 c1 c2 hf (HSUB.out _ (by omega))⟩
set_option maxRecDepth 100000 in
set_option maxHeartbeats 400000 in
theorem Text_dec (s : ByteArray) (R : List Nat) (g : Nat) (w : World) (hs : s.size ≤ 65536) (hR : ∀ c ∈ R, c < 256) (hlen : (txt s ++ R).length ≤ 4611686018427387904) (hd : DecAt w g (txt s ++ R)) :
    Calls Try.prog 15 #[.pointer (some ⟨g, 0, none⟩)] w (Took w g (.string s) R) := by
  obtain ⟨v, b0, hb0, c0, c1, c2, hf, hr⟩ := hd
  have HS := hid (readText_txt s v R w hs hr.rd hR hlen)
  have hp : 0 < (txt s).length := by rw [txt, List.length_append]; have := num_pos s.size; omega
  have hLn : (txt s ++ R).length = (txt s).length + R.length := List.length_append
  have hdrop : (txt s ++ R).drop (txt s).length = R := List.drop_left
  obtain ⟨A, c, rfl, hc, hrd⟩ := hr
  obtain ⟨off, rfl, hlt, hcell⟩ := hrd (by omega)
  have hr2 : RdAt w b0 (.slice (some ⟨b0, off, none⟩) (txt s ++ R).length c) (txt s ++ R) := ⟨_, c, rfl, hc, fun _ => ⟨off, rfl, hlt, hcell⟩⟩
  have hsub := fun c' (h : (txt s ++ R).length - (txt s).length ≤ c') => hr2.drop (txt s).length c' (by omega) h
  rw [hdrop] at hsub
  have HSUB := hid hsub
  have HRL := hid (show (txt s ++ R).length - (txt s).length = 0 → R = [] from fun h => List.eq_nil_of_length_eq_zero (by omega))
  clear hrd hcell hr2 hsub hdrop
  generalize (txt s ++ R).length = LL at *
  generalize (txt s).length = nl at *
  have hLL : nl ≤ LL := by omega
  clear hLn
  by_cases hcn : c = nl
  · obtain rfl : LL = nl := by omega
    subst hcn
    have HR0 := hid (HRL.out (by omega))
    go_enter Try.func15, Try.ntmps15
    go_wp2_with (first
      | (go_at_call 16; refine (Err_dec _ _ c0 c2).mono ?_; rintro e w' ⟨rfl, rfl⟩)
      | (go_at_call 28; refine HS.out.mono ?_; rintro e w' ⟨rfl, rfl⟩)
      | go_in)
    go_ret
    exact ⟨_, rfl, rfl, DecAt.set_ hb0 c0 c1 c2 hf (by rw [HR0.out]; exact RdAt.zero _ _ _ _)⟩
  · go_enter Try.func15, Try.ntmps15
    go_wp2_with (first
      | (go_at_call 16; refine (Err_dec _ _ c0 c2).mono ?_; rintro e w' ⟨rfl, rfl⟩)
      | (go_at_call 28; refine HS.out.mono ?_; rintro e w' ⟨rfl, rfl⟩)
      | go_in)
    go_ret
    exact ⟨_, rfl, rfl, DecAt.set_ hb0 c0 c1 c2 hf (HSUB.out _ (by omega))⟩

theorem Done_dec (g : Nat) (w : World) (hd : DecAt w g []) : Calls Try.prog 17 #[.pointer (some ⟨g, 0, none⟩)] w fun e w' => e = .returned (.int .i64 0) ∧ w = w' := by
  obtain ⟨v, b0, hb0, c0, c1, c2, hf, A, c, rfl, _, _⟩ := hd
  simp only [List.length_nil] at c1
  go_enter Try.func17, Try.ntmps17
  go_wp2_with (go_at_call 16; refine (Err_dec _ _ c0 c2).mono ?_; rintro e w' ⟨rfl, rfl⟩)
  go_ret
  exact ⟨rfl, rfl⟩

theorem Own.rdAt {w : World} {B : Nat} {v : Value} {l : List Nat} (h : Own w B v l) : ∃ b0, b0 ≠ w.heap.size ∧ RdAt w b0 v l := by
  rcases h.2 with ⟨rfl, hn⟩ | ⟨g, cap, cur, hv, hg, hh, hnc, _⟩
  · have hl : l = [] := List.eq_nil_of_length_eq_zero hn
    subst hl
    exact ⟨w.heap.size + 1, by omega, RdAt.zero _ _ _ _⟩
  · have hlt := (Array.getElem?_eq_some_iff.1 hh).1
    refine ⟨g, by omega, _, cap, hv, hnc, fun _ => ⟨0, rfl, hlt, fun j hj => ?_⟩⟩
    rw [← add_flat]
    refine World.ownsRow.cells h (g := g) (by rw [hv]; rfl) j _ ?_
    simp [cellsB, hj]

/-- New: a decoder in a block of its own, at the beginning of the bytes l. -/
def Newed (w : World) (l : List Nat) (e : Ending) (w' : World) : Prop :=
  ∃ g, e = .returned (.pointer (some ⟨g, 0, none⟩)) ∧ w.heap.size ≤ g ∧ DecAt w' g l ∧ Below w.heap.size w w'
theorem New_any (v : Value) (l : List Nat) (w : World) (hv : Rd w v l) (hlen : l.length ≤ 140737488355328) : Calls Try.prog 19 #[v] w (Newed w l) := by
  go_enter Try.func19, Try.ntmps19
  go_wp2_with (go_at_call 29; refine (Clone_any _ l _ hv hlen).mono ?_; rintro e w1 ⟨u, rfl, ou, bu⟩; obtain ⟨A2, c2, rfl, _, _⟩ := ou.rd)
  go_ret
  obtain ⟨b0, hb0, hr⟩ := Own.rdAt ou
  have h := heap_alloc_new w1 (.cells #[.bool true, .slice A2 l.length c2, .int .i64 0] 36)
  refine ⟨w1.heap.size, rfl, bu.size, ⟨_, b0, hb0, ?_, ?_, ?_, ?_, hr.alloc _⟩, bu.alloc bu.size _⟩
  · rw [cell_of_row _ _ _ _ _ _ h]; rfl
  · rw [cell_of_row _ _ _ _ _ _ h]; rfl
  · rw [cell_of_row _ _ _ _ _ _ h]; rfl
  · exact frozen_of_row _ _ _ _ _ h
end Go.Proofs.Ytpcmonebihgjhaa
