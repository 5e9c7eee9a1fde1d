/-
  PlannerWhich: what is left away has none of the times, what is over has none that is kept; what is packed is of the list, each once, and not over: the walk. Conditions: the list is no longer than 2^40; a number is one that an int holds.
-/
import Derived.Test.YtoomhfjmcdbgkaaNlo
namespace Go.Icz
open Go.RowKit
theorem id_inj {l : List MV} (h : (idsM l).Nodup) {x y : MV} (hx : x ∈ l) (hy : y ∈ l) (e : x.id = y.id) : x = y := by
  unfold idsM at h
  induction l with
  | nil => cases hx
  | cons z t ih =>
    rw [List.map_cons, List.nodup_cons] at h
    rcases List.mem_cons.1 hx with ex | hx2
    · rcases List.mem_cons.1 hy with ey | hy2
      · rw [ex, ey]
      · exact absurd (show z.id ∈ List.map (fun x => x.id) t from List.mem_map.2 ⟨y, hy2, by rw [← e, ex]⟩) h.1
    · rcases List.mem_cons.1 hy with ey | hy2
      · exact absurd (show z.id ∈ List.map (fun x => x.id) t from List.mem_map.2 ⟨x, hx2, by rw [e, ey]⟩) h.1
      · exact ih h.2 hx2 hy2
theorem mem_next {L : List Int} {i : Nat} (h : i < L.length) (z : Int) : z ∈ L.take (i + 1) ↔ z ∈ L.take i ∨ z = L[i] := by
  rw [List.take_succ_eq_append_getElem h, List.mem_append, List.mem_singleton]
def inA (L : List Int) (i : Nat) : Int → Bool := fun k => decide (k ∈ L.take i)
theorem inA_next {L : List Int} {i : Nat} (h : i < L.length) : (fun j => if j = L[i] then true else inA L i j) = inA L (i + 1) := by
  funext j
  unfold inA
  have hm := mem_next h j
  by_cases e : j = L[i]
  · rw [if_pos e, decide_eq_true (hm.2 (.inr e))]
  · rw [if_neg e, decide_eq_decide, hm]
    exact ⟨.inl, fun h => h.resolve_right e⟩
theorem inA_all {L : List Int} {i : Nat} (h : L.length ≤ i) : inA L i = fun k => decide (k ∈ L) := by
  unfold inA
  rw [List.take_of_length_le h]
def inC (L C : List Int) (i : Nat) : Int → Bool := fun k => decide (k ∈ L) && !decide (k ∈ C.take i)
theorem inC_next {L C : List Int} {i : Nat} (h : i < C.length) : (fun j => if j = C[i] then false else inC L C i j) = inC L C (i + 1) := by
  funext j
  unfold inC
  have hm := mem_next h j
  by_cases e : j = C[i]
  · rw [if_pos e, decide_eq_true (hm.2 (.inr e))]
    simp
  · have e2 : decide (j ∈ C.take (i + 1)) = decide (j ∈ C.take i) := by rw [decide_eq_decide, hm]; exact ⟨fun h => h.resolve_right e, .inl⟩
    rw [if_neg e, e2]
theorem ids_those {l : List MV} (hf : FinT l) (p : MV → Bool) {x : MV} (hx : x ∈ l) : x.id ∈ idsM (thoseM l p) ↔ p x = true := by
  unfold thoseM
  rw [if_pos (fine_iff.2 hf)]
  unfold idsM
  rw [List.mem_map]
  constructor
  · rintro ⟨y, hy, e⟩
    obtain ⟨h1, h2⟩ := List.mem_filter.1 hy
    rw [← id_inj hf.2 h1 hx e]
    exact h2
  · intro h
    exact ⟨x, List.mem_filter.2 ⟨hx, h⟩, rfl⟩
theorem those_sub {l : List MV} (p : MV → Bool) {k : Int} (h : k ∈ idsM (thoseM l p)) : ∃ y ∈ l, y.id = k := by
  unfold idsM thoseM at h
  obtain ⟨y, hy, e⟩ := List.mem_map.1 h
  split at hy
  · exact ⟨y, (List.mem_filter.1 hy).1, e⟩
  · cases hy
structure PackF (l : List MV) (f keep now : Int) (a : List MV) : Prop where
  mem : ∀ y ∈ a, y ∈ l ∧ overM keep now y = false
  nd : (idsM a).Nodup
  len : a = [] ∨ (a.length : Int) = f
theorem PackOf.facts {l : List MV} (hf : FinT l) {f mb keep now : Int} {a : List MV} (h : PackOf l f mb keep now a) : PackF l f keep now a := by
  rcases h with ⟨_, rfl⟩ | ⟨hpk, _, s, hp, _, ha⟩
  · exact ⟨fun y hy => (by cases hy), (by simp [idsM]), .inl rfl⟩
  · have hsub := ha.sub
    refine ⟨fun y hy => ?_, ?_, ?_⟩
    · obtain ⟨h1, h2⟩ := List.mem_filter.1 (hp.subset (hsub.subset hy))
      exact ⟨h1, by simpa using h2⟩
    · have h1 := (hf.sub (List.filter_sublist (p := fun x => !overM keep now x))).perm hp
      exact (h1.sub hsub).2
    · rcases ha.len with h | h
      · exact .inl h
      · right
        unfold packsM at hpk
        rw [decide_eq_true_eq] at hpk
        rw [h]
        omega
end Go.Icz
namespace Go.Proofs.Ytoomhfjmcdbgkaa
open Go.RowKit Go.Icz
theorem KInt_at {w : World} {A : Option Addr} {n c : Nat} {l : List Int} (h : KInt.Rd w (.slice A n c) l) {j : Nat} (hj : j < l.length) : ∃ b off, A = some ⟨b, off, none⟩ ∧ b < w.heap.size ∧ w.cell? ⟨b, off + j, none⟩ = some (.int .i64 l[j]) := by
  obtain ⟨b, off, hA, hb, hc⟩ := h.at hj
  refine ⟨b, off, hA, hb, ?_⟩
  have := hc 0 (.int .i64 l[j]) (by decide) rfl
  change w.cell? ⟨b, off + (j * 1 + 0), none⟩ = _ at this
  rwa [Nat.mul_one, Nat.add_zero] at this
set_option maxRecDepth 100000 in
set_option maxHeartbeats 8000000 in
theorem which_no (v : Value) (l : List MV) (fr to' f mb keep now : Int) (W : World) (hR : KRm.Rd W v l) (hlen : l.length ≤ 1099511627776) (hwf : ∀ x ∈ l, wfI x.id) (hn : now ≤ 9223372036854775807) (hf : fineM l = false) :
    Calls Try.prog 6 #[v, .int .i64 fr, .int .i64 to', rulesV f mb keep, .int .i64 now] W fun e w' => e = .returned (.bool true) ∧ Below W.heap.size W w' := by
  have b0 : Below W.heap.size W (W.alloc (.cells #[.int .i64 f, .int .i64 mb, .int .i64 keep] 55)) := (Below.refl _ W).alloc (Nat.le_refl _) _
  have r0 := box_row W #[.int .i64 f, .int .i64 mb, .int .i64 keep] 55
  have cList := List_is v l _ (hR.below b0) hlen
  have cF := fun u w1 (h : KMet.Rd w1 u l) => Fine_is u l w1 h hlen hwf
  have cL := fun u w1 (h : KMet.Rd w1 u l) => Look_is u l fr to' w1 h hlen hwf
  have cO := fun u w1 (h : KMet.Rd w1 u l) => Over_is u l keep now w1 h hlen hwf hn
  have cP := fun u w1 (h : KMet.Rd w1 u l) => Pack_is u l f mb keep now w1 h hlen hwf hn
  have e1 : ∀ p, idsM (thoseM l p) = [] := fun p => by unfold thoseM; rw [if_neg (by rw [hf]; decide)]; rfl
  simp only [e1] at cL cO
  rw [hf] at cF
  have HPN := hid (fun a (h : PackOf l f mb keep now a) => (show a = [] by
    rcases h with ⟨_, h⟩ | ⟨_, h, _⟩
    · exact h
    · rw [hf] at h; cases h))
  have cRl := fun w1 => rules_is f mb keep w1
  unfold rulesV at cP cRl ⊢
  obtain ⟨A, c, rfl, _⟩ := hR.form
  clear hR hwf e1 hf
  go_enter Try.func6, Try.ntmps6
  go_wp2_with (first
    | (go_at_call 10; go_loud (refine cList.mono ?_; rintro e wx ⟨ux, rfl, ox, bx⟩; have rx := ox.rd; obtain ⟨Ax, cx, rfl, _⟩ := rx.form; have hb := b0.trans (bx.mono b0.size); have r0x := (Tch.of_below bx (S := fun _ => False)).row r0 (fun h => h); clear cList ox r0))
    | (go_at_call 13; go_loud (refine (cF _ _ rx).mono ?_; rintro e Wb ⟨rfl, bf⟩; have hbb := hb.trans (bf.mono hb.size); have rxb := rx.below bf; have r0b := (Tch.of_below bf (S := fun _ => False)).row r0x (fun h => h); clear cF r0x rx)))
  have mkS : ∀ w', Below Wb.heap.size Wb w' → Below Wb.heap.size Wb w' ∧ w'.cell? ⟨W.heap.size, 0, none⟩ = some (.int .i64 f) ∧ w'.cell? ⟨W.heap.size, 1, none⟩ = some (.int .i64 mb) ∧ w'.cell? ⟨W.heap.size, 2, none⟩ = some (.int .i64 keep) := fun w' h => by
    have k5 := (Tch.of_below h (S := fun _ => False)).row r0b (fun h => h)
    exact ⟨h, held_cell k5 rfl, held_cell k5 rfl, held_cell k5 rfl⟩
  have hk := mkS Wb.drew (Below.refl _ _).drew
  clear r0b
  go_region_held3 (fun w' => Below Wb.heap.size Wb w' ∧ w'.cell? ⟨W.heap.size, 0, none⟩ = some (.int .i64 f) ∧ w'.cell? ⟨W.heap.size, 1, none⟩ = some (.int .i64 mb) ∧ w'.cell? ⟨W.heap.size, 2, none⟩ = some (.int .i64 keep)) (exact hk)
    (first
      | (go_at_call 24; refine (cL _ _ (rxb.below hk.1)).mono ?_; rintro e w2 ⟨u1, rfl, o1, b2⟩; obtain ⟨A1, c1, rfl, _⟩ := o1.rd.form; have hk := mkS _ (hk.1.trans (b2.mono hk.1.size)))
      | (go_at_call 26; refine (cO _ _ (rxb.below hk.1)).mono ?_; rintro e w3 ⟨u2, rfl, o2, b3⟩; obtain ⟨A2, c2, rfl, _⟩ := o2.rd.form; have hk := mkS _ (hk.1.trans (b3.mono hk.1.size)))
      | (go_at_call 32; refine (cRl _).mono ?_; rintro e w4 ⟨rfl, b4⟩; have hk := mkS _ (hk.1.trans (b4.mono hk.1.size)))
      | (go_at_call 31; refine (cP _ _ (rxb.below hk.1)).mono ?_; rintro e w5 ⟨a, ha, u3, rfl, o3, b5⟩; obtain rfl := HPN.out _ ha; obtain ⟨A3, c3, rfl, _⟩ := o3.rd.form; have hk := mkS _ (hk.1.trans (b5.mono hk.1.size)))
      | (go_at_call 22; refine (knows_is _).mono ?_; rintro e w6 ⟨rfl, b6⟩; have hk := mkS _ (hk.1.trans (b6.mono hk.1.size))))
  go_wp2_with fail
  go_ret
  exact ⟨rfl, hbb.trans (hk.1.mono hbb.size)⟩
end Go.Proofs.Ytoomhfjmcdbgkaa
