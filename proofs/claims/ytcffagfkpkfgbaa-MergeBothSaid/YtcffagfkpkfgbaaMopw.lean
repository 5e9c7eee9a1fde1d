/-
  A list of entries and a list of numbers that came in, opened, whatever their length: their sizes by weight. Conditions: those that each theorem names.
-/
import Derived.Test.YtcffagfkpkfgbaaMpb
namespace Go.Proofs.Ytcffagfkpkfgbaa
open Go.ChangeMaps Go.ChangeShapes Go.WideShapes Go.ChangeAt Go.RowKit Go.Icz
theorem bytesLabQ : Try.prog.bytesOf 65 = 32 := by kernel_rfl
set_option maxRecDepth 100000 in
open Go.Joins Go.Deep in
theorem open_kdw {α : Type} [Inhabited α] (K : Kd α) {H : Type} {enc : TypeId × Value → H} {W : World} {t : TypeId} (ht : Try.prog.underlying t = some (.slice K.e)) (hc : Try.prog.cellsOf K.e = K.z) (Q : α → Prop) (B : DataW H → Prop)
    (each : ∀ n cs D Pl, DataW.trod enc Try.prog W 0 (fun _ => true) true n K.e cs = some (D, Pl) → B D → ∃ x, cs = K.enc x ∧ Q x)
    {fuel : Nat} {a : Option Addr} {len cap : Nat} {d : DataW H} {p : List MemPlace} (hf : DataW.trod enc Try.prog W 0 (fun _ => true) true fuel t [.slice a len cap] = some (d, p)) (hB : ∀ els sp, d = .slice els sp → ∀ D ∈ els, B D) :
    ∃ l : List α, l.length = len ∧ K.Rd W (.slice a len cap) l ∧ (∀ x ∈ l, Q x) ∧ (l = [] ∨ ∃ els sp, d = .slice els sp ∧ els.length = len) := by
  rcases Go.Deep.open_slice ht hf with ⟨hcs, hx⟩ | ⟨x, ln, cp, m, n, D, Pl, hcs, _, hl, hm, hmm, hx, hall⟩
  · simp only [List.cons.injEq, Value.slice.injEq, and_true] at hcs
    obtain ⟨rfl, rfl, rfl⟩ := hcs
    exact ⟨[], rfl, Kd.Rd.nil W, by simp, .inl rfl⟩
  · simp only [List.cons.injEq, Value.slice.injEq, and_true] at hcs
    obtain ⟨rfl, rfl, rfl⟩ := hcs
    simp only [if_true] at hmm
    subst hmm
    simp only [Prod.mk.injEq] at hx
    obtain ⟨hd, _⟩ := hx
    have each2 : ∀ i, i < len → ∃ y : α, (∀ j u, j < K.z → (K.enc y)[j]? = some u → W.cell? (x.add (i * K.z + j)) = some u) ∧ Q y := by
      intro i hi
      obtain ⟨cs', h1, h2⟩ := hall i (by omega)
      rw [hc] at h1
      obtain ⟨_, hlen, hcell⟩ := World.cells?_some h1
      have hDi := hB _ _ hd (D i) (List.mem_map.2 ⟨i, List.mem_range.2 hi, rfl⟩)
      obtain ⟨y, hcs, hq⟩ := each _ _ _ _ h2 hDi
      refine ⟨y, fun j u hj hu => ?_, hq⟩
      have := hcell j (by omega)
      rw [Go.Deep.add_add] at this
      rw [this, hcs, hu]
    obtain ⟨Y, hY⟩ := Go.Deep.choose_lt each2
    have hlen : ((List.range len).map Y).length = len := by simp
    refine ⟨(List.range len).map Y, hlen, ⟨some x, _, by rw [hlen], by rw [hlen]; omega, fun h0 => ?_⟩, ?_, .inr ⟨_, _, hd, by simp⟩⟩
    · rw [hlen] at h0
      obtain ⟨b, off, spot⟩ := x
      obtain ⟨u0, hu0⟩ : ∃ u, (K.enc (Y 0))[0]? = some u := by
        have h1 : 0 < (K.enc (Y 0)).length := by rw [K.len]; exact K.pos
        exact ⟨_, List.getElem?_eq_getElem h1⟩
      have hc0 := (hY 0 (by omega)).1 0 u0 K.pos hu0
      have hspot : spot = none := by simpa [Addr.add] using World.cell?_spot hc0
      subst hspot
      refine ⟨b, off, rfl, World.block_lt_of_cell? W _ (by simpa [Addr.add] using hc0), fun j u hj => ?_⟩
      have hjl := (List.getElem?_eq_some_iff.1 hj).1
      rw [K.cells_len, hlen] at hjl
      have hq : j / K.z < len := by rw [Nat.div_lt_iff_lt_mul K.pos]; exact hjl
      have hr : j % K.z < K.z := Nat.mod_lt _ K.pos
      have hj2 : j = j / K.z * K.z + j % K.z := by rw [Nat.mul_comm]; exact (Nat.div_add_mod j K.z).symm
      have hg := K.cells_get ((List.range len).map Y) (j / K.z) (by rw [hlen]; exact hq) (j % K.z) hr
      rw [← hj2, hj] at hg
      have hg2 : (K.enc (Y (j / K.z)))[j % K.z]? = some u := by
        rw [hg]
        simp
      have := (hY (j / K.z) hq).1 (j % K.z) u hr hg2
      rw [add_flat, ← hj2] at this
      exact this
    · intro y hy
      obtain ⟨i, hi, rfl⟩ := List.mem_map.1 hy
      exact (hY i (List.mem_range.1 hi)).2
theorem weights_allQ {H : Type} {P : Program} {e : TypeId} : ∀ {el : List (DataW H)} {x : DataW H}, x ∈ el → ∀ n ∈ x.weights P e, n ∈ DataW.weightsAll P e el
  | y :: t, x, h => by
    intro n hn
    unfold DataW.weightsAll
    rcases List.mem_cons.1 h with h | h
    · subst h
      exact List.mem_append.2 (.inl hn)
    · exact List.mem_append.2 (.inr (weights_allQ h n hn))
open Go.Joins Go.Deep in
theorem open_entw {H : Type} {enc : TypeId × Value → H} {W : World} {n : Nat} {cs : List Value} {D : DataW H} {Pl : List MemPlace} (h : DataW.trod enc Try.prog W 0 (fun _ => true) true n 34 cs = some (D, Pl)) (hb : ∀ n ∈ D.weights Try.prog 34, n ≤ reachBytes) : ∃ x : EV, cs = KEnt.enc x ∧ GoodE W x := by
  obtain ⟨xs, k, hk, hxy, hcl, hxl, hf⟩ := DataW.trod_struct Try.underlying34 h
  rw [cEn] at hcl
  match cs, hcl, xs, hxl with
  | [v0, v1, v2, v3], _, [y0, y1, y2, y3], _ =>
    have g0 := hf 0 _ rfl
    have g1 := hf 1 _ rfl
    have g2 := hf 2 _ rfl
    have g3 := hf 3 _ rfl
    simp [cI, cLs, cS] at g0 g1 g2 g3
    obtain ⟨z0, e0, _, w0⟩ := DataW.trod_int Try.underlying3 g0
    obtain ⟨z1, e1, _, _⟩ := DataW.trod_int Try.underlying3 g1
    obtain ⟨A, m, c, e2⟩ := slice_form Try.underlying32 g2
    obtain ⟨s3, e3, _, _⟩ := DataW.trod_string Try.underlying9 g3
    simp only [List.cons.injEq, and_true] at e0 e1 e2 e3
    subst e0 e1 e2 e3
    simp only [Prod.mk.injEq] at hxy
    obtain ⟨hD, _⟩ := hxy
    obtain ⟨l, hl, hr, _, hor⟩ := open_kdw KLab (t := 32) Try.underlying32 cLb (fun _ => True) (fun _ => True) (fun _ _ _ _ h _ => by obtain ⟨x, hx⟩ := open_lab h; exact ⟨x, hx, trivial⟩) (d := y2.1) (p := y2.2) g2 (fun _ _ _ _ _ => trivial)
    have hll : l.length ≤ 4398046511104 := by
      rcases hor with e | ⟨els, sp, e, he⟩
      · rw [e]; simp
      · have hw : (els.length + sp.length) * 32 ≤ reachBytes := by
          apply hb
          rw [hD]
          simp only [List.map_cons, List.map_nil]
          unfold DataW.weights
          rw [Try.underlying34]
          refine DataW.weights_mem_each (j := 2) (t := 32) (d := y2.1) rfl rfl _ ?_
          rw [e]
          unfold DataW.weights
          rw [Try.underlying32, ← bytesLabQ]
          exact List.mem_cons_self ..
        simp only [reachBytes] at hw
        omega
    subst hl
    exact ⟨(⟨z0, z1, l, s3.data.toList⟩, A, c), rfl, hr, w0, hll⟩
theorem open_listw {H : Type} {enc : TypeId × Value → H} {W : World} {a : Option Addr} {len cap : Nat} {d : DataW H} {p : List MemPlace} (h : DataW.Trod enc Try.prog W 0 (fun _ => true) true 22 (.slice a len cap) d p) (hsz : ∀ n ∈ d.weights Try.prog 22, n ≤ reachBytes) :
    ∃ l : List EV, l.length = len ∧ KEnt.Rd W (.slice a len cap) l ∧ (∀ x ∈ l, GoodE W x) := by
  obtain ⟨fuel, hf⟩ := h
  obtain ⟨l, h1, h2, h3, _⟩ := open_kdw KEnt (t := 22) Try.underlying22 cEn (GoodE W) (fun D => ∀ n ∈ D.weights Try.prog 34, n ≤ reachBytes) (fun _ _ _ _ h hb => open_entw h hb) (a := a) (len := len) (cap := cap) (by simpa [Value.cells] using hf) (fun els sp hd D hD n hn => by
    apply hsz
    rw [hd]
    unfold DataW.weights
    rw [Try.underlying22]
    exact List.mem_cons_of_mem _ (List.mem_append.2 (.inl (weights_allQ hD n hn))))
  exact ⟨l, h1, h2, h3⟩
theorem open_intsw {H : Type} {enc : TypeId × Value → H} {W : World} {a : Option Addr} {len cap : Nat} {d : DataW H} {p : List MemPlace} (h : DataW.Trod enc Try.prog W 0 (fun _ => true) true 23 (.slice a len cap) d p) :
    ∃ l : List Int, l.length = len ∧ KInt.Rd W (.slice a len cap) l := by
  obtain ⟨fuel, hf⟩ := h
  obtain ⟨l, h1, h2, _, _⟩ := open_kdw KInt (t := 23) Try.underlying23 cI (fun _ => True) (fun _ => True) (fun _ _ _ _ h _ => by
    obtain ⟨z, e0, _, _⟩ := DataW.trod_int Try.underlying3 h
    exact ⟨z, e0, trivial⟩) (a := a) (len := len) (cap := cap) (by simpa [Value.cells] using hf) (fun _ _ _ _ _ => trivial)
  exact ⟨l, h1, h2⟩
end Go.Proofs.Ytcffagfkpkfgbaa
