/-
  The document's disk as mathematics: names, files, pieces, changes, switches, and what a crash leaves. Conditions: those that each theorem names.
-/
import Derived.Test.YtjpneohachkheaaTx0
namespace Go.Icz
open Go.RowKit
/-- A file: its bytes, how many of them are sure, how long each piece behind these is. -/
structure FM where
  b : List Nat
  s : Nat
  ps : List Nat
/-- Names, each with its file's number. -/
abbrev NM := List (ByteArray × Nat)
def nlook (N : NM) (k : ByteArray) : Option Nat := (N.find? fun e => decide (e.1 = k)).map (·.2)
def ndel (k : ByteArray) (N : NM) : NM := N.filter fun e => decide (e.1 ≠ k)
def nput (N : NM) (k : ByteArray) (i : Nat) : NM := ndel k N ++ [(k, i)]
def nkeys (N : NM) : List ByteArray := N.map (·.1)
inductive Ef where
  | create (k : ByteArray) (i : Nat)
  | rename (a b : ByteArray)
  | remove (k : ByteArray)
def nren (N : NM) (a b : ByteArray) : NM := match nlook N a with
  | none => N
  | some i => nput (ndel a N) b i
theorem ren_none {N : NM} {a : ByteArray} (h : nlook N a = none) (b : ByteArray) : nren N a b = N := by unfold nren; rw [h]
theorem ren_some {N : NM} {a : ByteArray} {i : Nat} (h : nlook N a = some i) (b : ByteArray) : nren N a b = nput (ndel a N) b i := by unfold nren; rw [h]
def nchange (N : NM) : Ef → NM
  | .create k i => nput N k i
  | .rename a b => nren N a b
  | .remove k => ndel k N
theorem look_del_same (k : ByteArray) (N : NM) : nlook (ndel k N) k = none := by
  unfold nlook ndel
  rw [Option.map_eq_none_iff, List.find?_eq_none]
  intro x hx
  have := (List.mem_filter.1 hx).2
  simpa using this
theorem look_del_other {j k : ByteArray} (h : j ≠ k) : ∀ N : NM, nlook (ndel k N) j = nlook N j
  | [] => rfl
  | e :: r => by
    have ih := look_del_other h r
    unfold nlook ndel at ih ⊢
    rw [List.filter_cons]
    by_cases hk : e.1 = k
    · have hj : ¬ e.1 = j := fun hh => h (hh.symm.trans hk)
      simp only [hk, ne_eq, not_true, decide_false, Bool.false_eq_true, if_false]
      rw [List.find?_cons]
      simp only [hj, decide_false]
      exact ih
    · simp only [hk, ne_eq, not_false_iff, decide_true, if_true]
      rw [List.find?_cons, List.find?_cons]
      by_cases hj : e.1 = j
      · simp [hj]
      · simp only [hj, decide_false]
        exact ih
theorem look_put_same (N : NM) (k : ByteArray) (i : Nat) : nlook (nput N k i) k = some i := by
  have h := look_del_same k N
  unfold nput nlook at *
  rw [Option.map_eq_none_iff] at h
  rw [List.find?_append, h]
  simp
theorem look_put_other {j k : ByteArray} (h : j ≠ k) (N : NM) (i : Nat) : nlook (nput N k i) j = nlook N j := by
  rw [← look_del_other h N]
  unfold nput nlook
  rw [List.find?_append]
  have : ¬ k = j := fun hh => h hh.symm
  simp [this]
theorem look_mem {N : NM} {k : ByteArray} {i : Nat} (h : nlook N k = some i) : (k, i) ∈ N := by
  unfold nlook at h
  obtain ⟨e, he, rfl⟩ := Option.map_eq_some_iff.1 h
  have h1 := List.find?_some he
  have h2 := List.mem_of_find?_eq_some he
  have : e.1 = k := by simpa using h1
  rw [← this]
  exact h2
theorem look_none {N : NM} {k : ByteArray} (h : nlook N k = none) : ∀ e ∈ N, e.1 ≠ k := by
  unfold nlook at h
  rw [Option.map_eq_none_iff, List.find?_eq_none] at h
  intro e he
  simpa using h e he
theorem look_of_mem : ∀ {N : NM}, (nkeys N).Nodup → ∀ {e : ByteArray × Nat}, e ∈ N → nlook N e.1 = some e.2
  | [], _, _, h => absurd h (by simp)
  | a :: r, hn, e, h => by
    unfold nkeys at hn
    rw [List.map_cons, List.nodup_cons] at hn
    unfold nlook
    rw [List.find?_cons]
    rcases List.mem_cons.1 h with rfl | h'
    · simp
    · have : ¬ a.1 = e.1 := fun hh => hn.1 (List.mem_map.2 ⟨e, h', hh.symm⟩)
      simp only [this, decide_false]
      exact look_of_mem hn.2 h'
theorem look_isSome {N : NM} {k : ByteArray} : (nlook N k).isSome = true ↔ k ∈ nkeys N := by
  constructor
  · intro h
    obtain ⟨i, hi⟩ := Option.isSome_iff_exists.1 h
    exact List.mem_map.2 ⟨_, look_mem hi, rfl⟩
  · intro h
    obtain ⟨e, he, rfl⟩ := List.mem_map.1 h
    cases hl : nlook N e.1
    · exact absurd rfl (look_none hl e he)
    · rfl
theorem nodup_del {N : NM} (h : (nkeys N).Nodup) (k : ByteArray) : (nkeys (ndel k N)).Nodup :=
  h.sublist (List.Sublist.map _ List.filter_sublist)
theorem nodup_put {N : NM} (h : (nkeys N).Nodup) (k : ByteArray) (i : Nat) : (nkeys (nput N k i)).Nodup := by
  unfold nput nkeys
  rw [List.map_append, List.nodup_append]
  refine ⟨nodup_del h k, by simp, ?_⟩
  intro a ha b hb
  obtain ⟨e, he, rfl⟩ := List.mem_map.1 ha
  obtain rfl : b = k := by simpa using hb
  have := (List.mem_filter.1 he).2
  simpa using this
theorem nodup_change {N : NM} (h : (nkeys N).Nodup) (x : Ef) : (nkeys (nchange N x)).Nodup := by
  cases x with
  | create k i => exact nodup_put h k i
  | rename a b =>
    show (nkeys (nren N a b)).Nodup
    cases hl : nlook N a with
    | none => rw [ren_none hl]; exact h
    | some i => rw [ren_some hl]; exact nodup_put (nodup_del h a) b i
  | remove k => exact nodup_del h k
theorem len_del_le (k : ByteArray) (N : NM) : (ndel k N).length ≤ N.length := List.length_filter_le _ _
theorem len_del : ∀ {N : NM} {k : ByteArray}, (nkeys N).Nodup → (ndel k N).length + (if (nlook N k).isSome then 1 else 0) = N.length := by
  intro N k h
  induction N with
  | nil => rfl
  | cons a r ih =>
    unfold nkeys at h
    rw [List.map_cons, List.nodup_cons] at h
    have ih := ih h.2
    by_cases hk : a.1 = k
    · have h1 : ndel k (a :: r) = r := by
        unfold ndel
        rw [List.filter_cons]
        simp only [hk, ne_eq, not_true, decide_false, Bool.false_eq_true, if_false]
        refine List.filter_eq_self.2 fun e he => ?_
        have : e.1 ≠ k := fun hh => h.1 (List.mem_map.2 ⟨e, he, hh.trans hk.symm⟩)
        simpa using this
      have h2 : nlook (a :: r) k = some a.2 := by unfold nlook; simp [hk]
      rw [h1, h2]
      simp
    · have h1 : ndel k (a :: r) = a :: ndel k r := by
        unfold ndel
        rw [List.filter_cons]
        simp [hk]
      have h2 : nlook (a :: r) k = nlook r k := by unfold nlook; rw [List.find?_cons]; simp [hk]
      rw [h1, h2, List.length_cons, List.length_cons]
      omega
theorem len_put {N : NM} (h : (nkeys N).Nodup) (k : ByteArray) (i : Nat) : (nput N k i).length = if (nlook N k).isSome then N.length else N.length + 1 := by
  have := len_del (k := k) h
  unfold nput
  rw [List.length_append, List.length_singleton]
  split at this <;> rename_i hh <;> simp [hh] <;> omega
theorem len_put_le (N : NM) (k : ByteArray) (i : Nat) : (nput N k i).length ≤ N.length + 1 := by
  unfold nput
  rw [List.length_append, List.length_singleton]
  have := len_del_le k N
  omega
theorem len_change (N : NM) (x : Ef) : (nchange N x).length ≤ N.length + 1 := by
  cases x with
  | create k i => exact len_put_le N k i
  | rename a b =>
    show (nren N a b).length ≤ _
    cases hl : nlook N a with
    | none => rw [ren_none hl]; exact Nat.le_succ _
    | some i => rw [ren_some hl]; have h1 := len_put_le (ndel a N) b i; have h2 := len_del_le a N; omega
  | remove k => have := len_del_le k N; show (ndel k N).length ≤ _; omega
/-- The numbers that a change brings. -/
def efi : Ef → List Nat
  | .create _ i => [i]
  | _ => []
theorem mem_change {N : NM} {x : Ef} {e : ByteArray × Nat} (h : e ∈ nchange N x) : (∃ e' ∈ N, e'.2 = e.2) ∨ e.2 ∈ efi x := by
  have hput : ∀ {N : NM} {k i}, e ∈ nput N k i → e ∈ N ∨ e.2 = i := by
    intro N k i h
    rcases List.mem_append.1 h with h | h
    · exact .inl (List.mem_filter.1 h).1
    · exact .inr (by rw [List.mem_singleton.1 h])
  cases x with
  | create k i =>
    rcases hput h with h | h
    · exact .inl ⟨e, h, rfl⟩
    · exact .inr (by simp [efi, h])
  | rename a b =>
    change e ∈ nren N a b at h
    cases hl : nlook N a with
    | none => rw [ren_none hl] at h; exact .inl ⟨e, h, rfl⟩
    | some i =>
      rw [ren_some hl] at h
      rcases hput h with h | h
      · exact .inl ⟨e, (List.mem_filter.1 h).1, rfl⟩
      · exact .inl ⟨_, look_mem hl, h.symm⟩
  | remove k => exact .inl ⟨e, (List.mem_filter.1 h).1, rfl⟩
/-- What a disk is. -/
structure DM where
  off : Bool
  fuse : Int
  fault : Int
  done : Bool
  quota : Nat
  fs : List FM
  names : NM
  sure : NM
  ch : List Ef
def f0 : FM := ⟨[], 0, []⟩
def fileAt (fs : List FM) (i : Nat) : FM := fs.getD i f0
def used (fs : List FM) (N : NM) : Nat := (N.map fun e => (fileAt fs e.2).b.length).sum
/-- May a name be? -/
def rightB (k : ByteArray) : Bool := decide (1 ≤ k.size ∧ k.size ≤ 64) && k.data.toList.all fun c => decide (33 ≤ c.toNat ∧ c.toNat ≤ 126)
def agCreate (M : DM) (k : ByteArray) : Int := if rightB k = false then 1 else if (nlook M.names k).isSome then 4 else if 512 ≤ M.names.length then 7 else 0
def agThere (M : DM) (k : ByteArray) : Int := if (nlook M.names k).isSome then 0 else 3
def agMore (M : DM) (k : ByteArray) (n : Nat) : Int := if (nlook M.names k).isSome = false then 3 else if M.quota < used M.fs M.names + n then 7 else 0
def agRename (M : DM) (a b : ByteArray) : Int := if (nlook M.names a).isSome = false then 3 else if rightB b = false then 1 else 0
/-- The switches are asked. -/
def askM (M : DM) : Bool × Int × DM :=
  if M.fuse = 0 then (false, 9, { M with off := true })
  else
    let M1 : DM := { M with fuse := if 0 < M.fuse then M.fuse - 1 else M.fuse }
    if M.fault = 0 then (true, 0, M1)
    else if 0 < M.fault - 1 then (true, 0, { M1 with fault := M.fault - 1 })
    else (M.done, 8, { M1 with fault := M.fault - 1 })
def opM (M : DM) (ag : Int) (act : DM → DM) : Int × DM :=
  if M.off then (9, M) else if ag ≠ 0 then (ag, M) else
    ((askM M).2.1, if (askM M).1 then act (askM M).2.2 else (askM M).2.2)
def changeM (M : DM) (x : Ef) : DM := { M with names := nchange M.names x, ch := M.ch ++ [x] }
def extF (f : FM) (l : List Nat) : FM := if l.length = 0 then f else ⟨f.b ++ l, f.s, f.ps ++ [l.length]⟩
def synF (f : FM) : FM := ⟨f.b, f.b.length, []⟩
def setF (M : DM) (i : Nat) (f : FM) : DM := { M with fs := M.fs.set i f }
def actCreate (k : ByteArray) (M : DM) : DM := changeM { M with fs := M.fs ++ [f0] } (.create k M.fs.length)
def actMore (k : ByteArray) (l : List Nat) (M : DM) : DM := match nlook M.names k with
  | none => M
  | some i => setF M i (extF (fileAt M.fs i) l)
def actRename (a b : ByteArray) (M : DM) : DM := if a = b then M else changeM M (.rename a b)
def actRemove (k : ByteArray) (M : DM) : DM := changeM M (.remove k)
def actSync (k : ByteArray) (M : DM) : DM := match nlook M.names k with
  | none => M
  | some i => setF M i (synF (fileAt M.fs i))
def actDir (M : DM) : DM := { M with sure := M.names, ch := [] }
def createM (M : DM) (k : ByteArray) := opM M (agCreate M k) (actCreate k)
def appendM (M : DM) (k : ByteArray) (l : List Nat) := opM M (agMore M k l.length) (actMore k l)
def renameM (M : DM) (a b : ByteArray) := opM M (agRename M a b) (actRename a b)
def removeM (M : DM) (k : ByteArray) := opM M (agThere M k) (actRemove k)
def syncM (M : DM) (k : ByteArray) := opM M (agThere M k) (actSync k)
def dirM (M : DM) := opM M 0 actDir
def failM (M : DM) (k : Int) (d : Bool) : DM := { M with fault := max k 0, done := d }
def cutM (M : DM) (k : Int) : DM := { M with fuse := max k (-1) }
def readM (M : DM) (k : ByteArray) : List Nat × Int :=
  if M.off then ([], 9) else match nlook M.names k with
    | none => ([], 3)
    | some i => ((fileAt M.fs i).b, 0)
def rising (N : NM) : List (List UInt8) := ((N.map fun e => e.1.data.toList).mergeSort (fun x y => decide (x ≤ y)))
def listM (M : DM) : List (List UInt8) := rising M.names
def zero (b : List Nat) (i j : Nat) : List Nat := b.take i ++ List.replicate (j - i) 0 ++ b.drop j
/-- A file's pieces, one by one, kept or lost: its bytes, where it ends, and what is left of keep. -/
def cgo : List Nat → Nat → Nat → List Nat → List Bool → List Nat × Nat × List Bool
  | [], _, e, b, k => (b, e, k)
  | n :: ps, a, e, b, k => if k.headD false then cgo ps (a + n) (a + n) b k.tail else cgo ps (a + n) e (zero b a (a + n)) k.tail
def fcr (f : FM) (k : List Bool) : FM × List Bool :=
  let r := cgo f.ps f.s f.s f.b k
  (⟨r.1.take r.2.1, r.2.1, []⟩, r.2.2)
/-- The files of some names, one by one. -/
def fgo : List Nat → List FM → List Bool → List FM
  | [], fs, _ => fs
  | i :: r, fs, k => fgo r (fs.set i (fcr (fileAt fs i) k).1) (fcr (fileAt fs i) k).2
/-- The changes, one by one. -/
def chgo : List Ef → NM → List Bool → NM × List Bool
  | [], N, k => (N, k)
  | x :: r, N, k => chgo r (if k.headD false then nchange N x else N) k.tail
def idx (N : NM) (ss : List (List UInt8)) : List Nat := ss.map fun s => (nlook N ⟨s.toArray⟩).getD 0
def crashM (M : DM) (k : List Bool) : DM :=
  let r := chgo M.ch M.sure k
  { off := false, fuse := -1, fault := 0, done := false, quota := M.quota, fs := fgo (idx r.1 (rising r.1)) M.fs r.2, names := r.1, sure := r.1, ch := [] }
def newM (q : Nat) : DM := ⟨false, -1, 0, false, q, [], [], [], []⟩
end Go.Icz
