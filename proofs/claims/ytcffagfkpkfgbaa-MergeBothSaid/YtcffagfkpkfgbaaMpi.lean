/-
  A list of numbers that came in, opened. Conditions: those that the theorem names.
-/
import Derived.Test.YtcffagfkpkfgbaaMpw
namespace Go.Proofs.Ytcffagfkpkfgbaa
open Go.ChangeMaps Go.ChangeShapes Go.WideShapes Go.ChangeAt Go.RowKit Go.Icz
theorem open_ints {H : Type} {enc : TypeId × Value → H} {W : World} {a : Option Addr} {len cap : Nat} {d : DataW H} {p : List MemPlace} (h : DataW.Trod enc Try.prog W 0 (fun _ => true) true 23 (.slice a len cap) d p) (hb : Rows.uptoBulk d ≤ 1048576) :
    ∃ l : List Int, l.length = len ∧ KInt.Rd W (.slice a len cap) l ∧ l.length ≤ 1048576 := by
  obtain ⟨fuel, hf⟩ := h
  obtain ⟨l, h1, h2, h3, _⟩ := open_kd KInt (t := 23) Try.underlying23 cI (fun _ => True) (fun _ _ _ _ h _ => by
    obtain ⟨z, e0, _, _⟩ := DataW.trod_int Try.underlying3 h
    exact ⟨z, e0, trivial⟩) (a := a) (len := len) (cap := cap) (by simpa [Value.cells] using hf) hb
  exact ⟨l, h1, h3, h2⟩
end Go.Proofs.Ytcffagfkpkfgbaa
