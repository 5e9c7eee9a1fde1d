/-
  What an effect is, asked type by type; a change of the names. Conditions: those that each theorem names.
-/
import Derived.Test.YtjpneohachkheaaSm3
namespace Go.Proofs.Ytjpneohachkheaa
open Go.RowKit Go.Icz Go.Maps Go.ChangeMaps Go.MapKept
set_option maxRecDepth 100000
set_option maxHeartbeats 1000000
theorem as_create_create (v : Value) (w : World) : (Instr.typeAssert (.iface 85 v) 72 85 true).run Try.prog w = .ok (.tuple #[v, .bool true]) w := by kernel_rfl
theorem as_extend_create (v : Value) (w : World) : (Instr.typeAssert (.iface 87 v) 72 85 true).run Try.prog w = .ok (.tuple #[.agg #[.string ⟨#[]⟩, .pointer none], .bool false]) w := by kernel_rfl
theorem as_extend_extend (v : Value) (w : World) : (Instr.typeAssert (.iface 87 v) 72 87 true).run Try.prog w = .ok (.tuple #[v, .bool true]) w := by kernel_rfl
theorem as_rename_create (v : Value) (w : World) : (Instr.typeAssert (.iface 89 v) 72 85 true).run Try.prog w = .ok (.tuple #[.agg #[.string ⟨#[]⟩, .pointer none], .bool false]) w := by kernel_rfl
theorem as_rename_extend (v : Value) (w : World) : (Instr.typeAssert (.iface 89 v) 72 87 true).run Try.prog w = .ok (.tuple #[.agg #[.string ⟨#[]⟩, .slice none 0 0], .bool false]) w := by kernel_rfl
theorem as_rename_rename (v : Value) (w : World) : (Instr.typeAssert (.iface 89 v) 72 89 true).run Try.prog w = .ok (.tuple #[v, .bool true]) w := by kernel_rfl
theorem as_remove_create (v : Value) (w : World) : (Instr.typeAssert (.iface 91 v) 72 85 true).run Try.prog w = .ok (.tuple #[.agg #[.string ⟨#[]⟩, .pointer none], .bool false]) w := by kernel_rfl
theorem as_remove_extend (v : Value) (w : World) : (Instr.typeAssert (.iface 91 v) 72 87 true).run Try.prog w = .ok (.tuple #[.agg #[.string ⟨#[]⟩, .slice none 0 0], .bool false]) w := by kernel_rfl
theorem as_remove_rename (v : Value) (w : World) : (Instr.typeAssert (.iface 91 v) 72 89 true).run Try.prog w = .ok (.tuple #[.agg #[.string ⟨#[]⟩, .string ⟨#[]⟩], .bool false]) w := by kernel_rfl
theorem as_remove_remove (v : Value) (w : World) : (Instr.typeAssert (.iface 91 v) 72 91 true).run Try.prog w = .ok (.tuple #[v, .bool true]) w := by kernel_rfl
theorem as_syncFile_create (v : Value) (w : World) : (Instr.typeAssert (.iface 92 v) 72 85 true).run Try.prog w = .ok (.tuple #[.agg #[.string ⟨#[]⟩, .pointer none], .bool false]) w := by kernel_rfl
theorem as_syncFile_extend (v : Value) (w : World) : (Instr.typeAssert (.iface 92 v) 72 87 true).run Try.prog w = .ok (.tuple #[.agg #[.string ⟨#[]⟩, .slice none 0 0], .bool false]) w := by kernel_rfl
theorem as_syncFile_rename (v : Value) (w : World) : (Instr.typeAssert (.iface 92 v) 72 89 true).run Try.prog w = .ok (.tuple #[.agg #[.string ⟨#[]⟩, .string ⟨#[]⟩], .bool false]) w := by kernel_rfl
theorem as_syncFile_remove (v : Value) (w : World) : (Instr.typeAssert (.iface 92 v) 72 91 true).run Try.prog w = .ok (.tuple #[.agg #[.string ⟨#[]⟩], .bool false]) w := by kernel_rfl
theorem as_syncFile_syncFile (v : Value) (w : World) : (Instr.typeAssert (.iface 92 v) 72 92 true).run Try.prog w = .ok (.tuple #[v, .bool true]) w := by kernel_rfl
theorem as_syncNames_create (v : Value) (w : World) : (Instr.typeAssert (.iface 94 v) 72 85 true).run Try.prog w = .ok (.tuple #[.agg #[.string ⟨#[]⟩, .pointer none], .bool false]) w := by kernel_rfl
theorem as_syncNames_extend (v : Value) (w : World) : (Instr.typeAssert (.iface 94 v) 72 87 true).run Try.prog w = .ok (.tuple #[.agg #[.string ⟨#[]⟩, .slice none 0 0], .bool false]) w := by kernel_rfl
theorem as_syncNames_rename (v : Value) (w : World) : (Instr.typeAssert (.iface 94 v) 72 89 true).run Try.prog w = .ok (.tuple #[.agg #[.string ⟨#[]⟩, .string ⟨#[]⟩], .bool false]) w := by kernel_rfl
theorem as_syncNames_remove (v : Value) (w : World) : (Instr.typeAssert (.iface 94 v) 72 91 true).run Try.prog w = .ok (.tuple #[.agg #[.string ⟨#[]⟩], .bool false]) w := by kernel_rfl
theorem as_syncNames_syncFile (v : Value) (w : World) : (Instr.typeAssert (.iface 94 v) 72 92 true).run Try.prog w = .ok (.tuple #[.agg #[.string ⟨#[]⟩], .bool false]) w := by kernel_rfl
theorem as_syncNames_syncNames (v : Value) (w : World) : (Instr.typeAssert (.iface 94 v) 72 94 true).run Try.prog w = .ok (.tuple #[v, .bool true]) w := by kernel_rfl
theorem nchange_create {w : World} {b : Nat} {N : NM} {gs : List Nat} (h : Mp w b N gs) (hn : (nkeys N).Nodup) (hl : N.length ≤ 1048576) (k : ByteArray) (i : Nat) (hk : k.size ≤ 64) :
    Calls Try.prog 32 #[.map (some b), evV (evOf gs (.create k i))] w fun e w' => e = .returned (.tuple #[]) ∧ Mp w' b (nchange N (.create k i)) gs ∧ Tch (· = b) w w' := by
  obtain ⟨g, hg⟩ : ∃ g, gs.getD i 0 = g := ⟨_, rfl⟩
  have hv : evV (evOf gs (.create k i)) = .iface 85 (.agg #[.string k, .pointer (some ⟨g, 0, none⟩)]) := by rw [← hg]; rfl
  have ta : Tch (fun _ => False) w (w.alloc (.cells #[.string k, .pointer (some ⟨g, 0, none⟩)] 85)) := Tch.alloc _ _ _
  obtain ⟨w2, hrun, h2, t2⟩ := (h.touch ta (fun h => h)).put hn (by unfold maxLen; omega) k (by unfold maxLen; omega) hg
  have HE : Hid (Mp w2 b (nchange N (.create k i)) gs ∧ Tch (· = b) w w2) := hid ⟨h2, (ta.mono (fun _ h => h.elim)).trans t2⟩
  have as0 := as_create_create
  rw [hv]
  clear h h2 t2 ta hv hg
  go_enter Try.func32, Try.ntmps32
  go_wp2
  go_end0
  exact ⟨rfl, HE.out⟩
theorem nchange_remove {w : World} {b : Nat} {N : NM} {gs : List Nat} (h : Mp w b N gs) (hn : (nkeys N).Nodup) (k : ByteArray) (hk : k.size ≤ 64) :
    Calls Try.prog 32 #[.map (some b), evV (evOf gs (.remove k))] w fun e w' => e = .returned (.tuple #[]) ∧ Mp w' b (nchange N (.remove k)) gs ∧ Tch (· = b) w w' := by
  have hv : evV (evOf gs (.remove k)) = .iface 91 (.agg #[.string k]) := rfl
  have ta : Tch (fun _ => False) w (w.alloc (.cells #[.string k] 91)) := Tch.alloc _ _ _
  obtain ⟨w2, hrun, h2, t2⟩ := (h.touch ta (fun h => h)).del hn k (by unfold maxLen; omega) 0
  have HE : Hid (Mp w2 b (nchange N (.remove k)) gs ∧ Tch (· = b) w w2) := hid ⟨h2, (ta.mono (fun _ h => h.elim)).trans t2⟩
  have as0 := as_remove_create
  have as1 := as_remove_rename
  have as2 := as_remove_remove
  rw [hv]
  clear h h2 t2 ta hv
  go_enter Try.func32, Try.ntmps32
  go_wp2
  go_end0
  exact ⟨rfl, HE.out⟩
theorem nchange_rename {w : World} {m : Nat} {N : NM} {gs : List Nat} (h : Mp w m N gs) (hn : (nkeys N).Nodup) (hl : N.length ≤ 1048576) (a b : ByteArray) (hka : a.size ≤ 64) (hkb : b.size ≤ 64) :
    Calls Try.prog 32 #[.map (some m), evV (evOf gs (.rename a b))] w fun e w' => e = .returned (.tuple #[]) ∧ Mp w' m (nchange N (.rename a b)) gs ∧ Tch (· = m) w w' := by
  have hv : evV (evOf gs (.rename a b)) = .iface 89 (.agg #[.string a, .string b]) := rfl
  have ta : Tch (fun _ => False) w (w.alloc (.cells #[.string a, .string b] 89)) := Tch.alloc _ _ _
  have h1 := h.touch ta (fun h => h)
  have hlook := h1.look2 a (by unfold maxLen; omega)
  have as0 := as_rename_create
  have as1 := as_rename_rename
  rw [hv]
  clear hv
  show Calls _ _ _ _ (fun e w' => e = .returned (.tuple #[]) ∧ Mp w' m (nren N a b) gs ∧ Tch (· = m) w w')
  cases hl' : nlook N a with
  | none =>
    rw [hl'] at hlook
    have HE : Hid (Mp (w.alloc (.cells #[.string a, .string b] 89)) m (nren N a b) gs ∧ Tch (· = m) w (w.alloc (.cells #[.string a, .string b] 89))) := hid ⟨by rw [ren_none hl']; exact h1, ta.mono (fun _ h => h.elim)⟩
    unfold ptO at hlook
    simp only [Option.isSome_none] at hlook
    clear h h1 ta
    go_enter Try.func32, Try.ntmps32
    go_wp2
    go_end0
    exact ⟨rfl, HE.out⟩
  | some i =>
    rw [hl'] at hlook
    unfold ptO at hlook
    simp only [Option.isSome_some] at hlook
    obtain ⟨g, hg⟩ : ∃ g, gs.getD i 0 = g := ⟨_, rfl⟩
    rw [hg] at hlook
    obtain ⟨w2, hrun, h2, t2⟩ := h1.del hn a (by unfold maxLen; omega) 0
    have hcell := fun i => t2.cell (b := w.heap.size) (i := i) (by rw [World.size_alloc]; exact Nat.lt_succ_self _) (fun e => by have := h.lt; omega)
    have hd1 : w2.cell? ⟨w.heap.size, 1, none⟩ = some (.string b) := by rw [hcell]; exact held_cell (heap_alloc_new w _) rfl
    obtain ⟨w3, hrun3, h3, t3⟩ := h2.put (nodup_del hn a) (by have := len_del_le a N; unfold maxLen; omega) b (by unfold maxLen; omega) hg
    have HE : Hid (Mp w3 m (nren N a b) gs ∧ Tch (· = m) w w3) := hid ⟨by rw [ren_some hl']; exact h3, (ta.mono (fun _ h => h.elim)).trans (t2.trans t3)⟩
    clear h h1 h2 h3 t2 t3 ta hg hcell
    go_enter Try.func32, Try.ntmps32
    go_wp2
    go_end0
    exact ⟨rfl, HE.out⟩
/-- A change of the names. -/
theorem nchange_is {w : World} {m : Nat} {N : NM} {gs : List Nat} (h : Mp w m N gs) (hn : (nkeys N).Nodup) (hl : N.length ≤ 1048576) (x : Ef) (hx : match x with | .create k _ => k.size ≤ 64 | .rename a b => a.size ≤ 64 ∧ b.size ≤ 64 | .remove k => k.size ≤ 64) :
    Calls Try.prog 32 #[.map (some m), evV (evOf gs x)] w fun e w' => e = .returned (.tuple #[]) ∧ Mp w' m (nchange N x) gs ∧ Tch (· = m) w w' := by
  cases x with
  | create k i => exact nchange_create h hn hl k i hx
  | rename a b => exact nchange_rename h hn hl a b hx.1 hx.2
  | remove k => exact nchange_remove h hn k hx
end Go.Proofs.Ytjpneohachkheaa
