/-
  What slices.symMergeCmpFunc does to a row of entries. Conditions: those that SymAll names.
-/
import Derived.Test.YtcdfjkhjdiojbaaDoorSym2
import Derived.Test.YtcdfjkhjdiojbaaDoorSym3
namespace Go.Proofs.YtcdfjkhjdiojbaaDoor
open Go.RowKit Go.Icz
theorem symAll : ∀ n, SymAll n
  | 0 => fun b cap N a m c A L R B w hn hN hRow ha hm hc hL hR hSL hSR hlen => by omega
  | n + 1 => fun b cap N a m c A L R B w hn hN hRow ha hm hc hL hR hSL hSR hlen => by
    rcases Nat.lt_or_ge 1 L.length with h1 | h1
    · rcases Nat.lt_or_ge 1 R.length with h2 | h2
      · exact symMerge_gen n (symAll n) b cap N a m c A L R B w hn hN hRow ha hm hc h1 h2 hSL hSR hlen
      · obtain ⟨y, rfl⟩ := List.length_eq_one_iff.1 (show R.length = 1 by omega)
        have hRow' : RowE w b (A ++ L ++ y :: B) := by simpa only [List.append_assoc, List.cons_append, List.nil_append] using hRow
        exact symMerge_last b cap N a m c A L y B w (by simpa using hN) hRow' ha hm (by simpa using hc) h1 hSL hlen
    · obtain ⟨x, rfl⟩ := List.length_eq_one_iff.1 (show L.length = 1 by omega)
      have hRow' : RowE w b (A ++ x :: R ++ B) := by simpa only [List.append_assoc, List.cons_append, List.nil_append] using hRow
      exact symMerge_one b cap N a m c A x R B w (by simp at hN; omega) hRow' ha (by simpa using hm) hc hSR hlen
end Go.Proofs.YtcdfjkhjdiojbaaDoor
