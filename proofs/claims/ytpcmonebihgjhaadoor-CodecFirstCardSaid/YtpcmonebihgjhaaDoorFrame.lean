/-
  What codec.Frame and the reference's Text and Frame answer. Conditions: those that each theorem names (the slice reads as bytes, the table's variable holds its numbers).
-/
import Derived.Test.YtpcmonebihgjhaaDoorSum
namespace Go.Proofs.YtpcmonebihgjhaaDoor
open Go.RowKit Go.Icy

/-- The sum's four bytes; a frame's bytes. -/
def be4 (c : Nat) : List Nat := [c / 16777216, c / 65536 % 256, c / 256 % 256, c % 256]
def hd (k n : Nat) : List Nat := k :: num n
def frm (k : Nat) (b : List Nat) : List Nat := 165 :: hd k b.length ++ be4 (crc (hd k b.length ++ b)) ++ b
theorem hd_lt {k n : Nat} (hk : k < 256) : ∀ c ∈ hd k n, c < 256 := by
  intro c hc
  rcases List.mem_cons.1 hc with rfl | hc
  · exact hk
  · exact num_lt n c hc

theorem frameSum_any (v u : Value) (l m : List Nat) (w : World) (hv : Rd w v l) (hu : Rd w u m) (hl : ∀ c ∈ l, c < 256) (hm : ∀ c ∈ m, c < 256) (hT : Tab w) (hlen : l.length ≤ 9223372036854775807) (hlen2 : m.length ≤ 9223372036854775807) :
    Calls Tryd.prog 22 #[v, u] w fun e w' => e = .returned (.int .u32 (crc (l ++ m) : Int)) ∧ w = w' := by
  have hr := reg_lt l 4294967295 (by omega) hl
  have h1 := hid (feed_any 4294967295 v l w (by omega) hl hv hT hlen)
  have h2 := hid (feed_any (reg 4294967295 l) u m w hr hm hu hT hlen2)
  have hN := not32 (reg_lt m _ hr hm)
  have HE := hid (show crc (l ++ m) = 4294967295 ^^^ reg (reg 4294967295 l) m by unfold crc; rw [reg_app])
  generalize reg (reg 4294967295 l) m = R2 at *
  generalize reg 4294967295 l = R at *
  clear hv hu hl hm hT
  go_enter Tryd.func22, Tryd.ntmps22
  go_wp2_with fail
  refine h1.out.mono ?_
  rintro e w' ⟨rfl, rfl⟩
  go_wp2_with fail
  refine h2.out.mono ?_
  rintro e w' ⟨rfl, rfl⟩
  go_wp2_with fail
  go_ret
  exact ⟨by rw [HE.out]; rfl, rfl⟩

set_option maxRecDepth 100000 in
set_option maxHeartbeats 1000000 in
theorem Frame_yes (k : Nat) (v : Value) (b : List Nat) (w : World) (hk : k < 256) (hv : Rd w v b) (hb : ∀ c ∈ b, c < 256) (hT : Tab w) (hlen : b.length ≤ 1048576) :
    Calls Tryd.prog 14 #[.int .i64 (k : Int), v] w (Made w (frm k b)) := by
  have h8 := num_len8 (n := b.length) (by omega)
  have HV := hid hv
  have HB := hid hb
  have HT := hid hT
  have HN := hid (Number_yes (b.length : Int))
  obtain ⟨A, c, rfl, _, _⟩ := hv
  clear hb hT
  have hcl := crc_lt (hd k b.length ++ b) (by intro c hc; rcases List.mem_append.1 hc with h | h; exact hd_lt hk c h; exact HB.out c h)
  obtain ⟨C, hC⟩ : ∃ C, crc (hd k b.length ++ b) = C := ⟨_, rfl⟩
  rw [hC] at hcl
  have HC := hid hC
  clear hC
  go_enter Tryd.func14, Tryd.ntmps14
  go_wp2_with (first
    | (go_at_call 19; refine (HN.out _ (by omega) (by omega)).mono ?_; rintro e w1 ⟨v1, rfl, o1, b1⟩; simp only [Int.toNat_natCast] at o1)
    | (at_builtin; refine wp_appR std rfl (.tmp 31) (.tmp 32) rfl w1.heap.size _ _ [k] (num b.length) rfl (Own.one w1 k (Nat.le_refl _)) rfl (o1.rd.alloc _) ?_ ?_ ?_; (focus (simp; omega)); (focus (simp; done)); intro v2 w2 o2 b2; have b2' := below_alloc (Nat.le_refl _) b2; have bb2 := b1.trans (b2'.mono b1.size); clear o1 b2)
    | (go_at_call 22; refine (frameSum_any _ _ (hd k b.length) b _ o2.rd (HV.out.below bb2) (hd_lt hk) HB.out (HT.out.below bb2) (by simp [hd]; omega) (by omega)).mono ?_; rintro e w' ⟨rfl, rfl⟩; rw [HC.out])
    | (at_builtin; refine wp_appR std rfl (.tmp 37) (.tmp 38) rfl w2.heap.size _ _ [165] (hd k b.length) rfl (Own.one w2 165 (Nat.le_refl _)) rfl (o2.rd.alloc _) ?_ ?_ ?_; (focus (simp [hd]; omega)); (focus (simp; done)); intro v3 w3 o3 b3; have b3' := below_alloc (Nat.le_refl _) b3; have hs3 := b3'.size; have bb3 := bb2.trans (b3'.mono bb2.size); clear o2 b3)
    | (at_builtin; refine wp_appR std rfl (.tmp 40) (.tmp 52) rfl w2.heap.size _ _ (165 :: hd k b.length) (be4 C) rfl (o3.alloc _) rfl (Rd.four _ _ _ _ _) ?_ ?_ ?_; (focus (simp [hd, be4]; omega)); (focus (simp; omega)); intro v4 w4 o4 b4; have b4' := below_alloc hs3 b4; have hs4 := b4'.size; have bb4 := bb3.trans (b4'.mono bb2.size); clear o3 b4)
    | (at_builtin; refine wp_appR std rfl (.tmp 54) (.tmp 55) rfl w2.heap.size _ _ (165 :: hd k b.length ++ be4 C) b rfl o4 rfl (HV.out.below bb4) ?_ ?_ ?_; (focus (simp [hd, be4]; omega)); (focus omega); intro v5 w5 o5 b5; clear o4))
  go_ret2
  refine ⟨_, rfl, ?_, bb4.trans (b5.mono bb2.size)⟩
  rw [← HC.out] at o5
  exact o5.mono bb2.size

theorem Frame_arg (k : Int) (v : Value) (b : List Nat) (w : World) (hk : k < 0 ∨ 255 < k) (hv : Rd w v b) : Calls Tryd.prog 14 #[.int .i64 k, v] w (Fails w 1) := by
  obtain ⟨A, c, rfl, _, _⟩ := hv
  rcases hk with hk | hk
  · go_enter Tryd.func14, Tryd.ntmps14
    go_wp2
    go_ret2
    exact ⟨rfl, rfl⟩
  · have hd : decide (k < 0) = false := decide_eq_false (by omega)
    go_enter Tryd.func14, Tryd.ntmps14
    go_wp2
    go_ret2
    exact ⟨rfl, rfl⟩
theorem Frame_size (k : Int) (v : Value) (b : List Nat) (w : World) (hk : 0 ≤ k) (hk2 : k ≤ 255) (hv : Rd w v b) (hlen : 1048576 < b.length) (hmax : b.length ≤ 9223372036854775807) : Calls Tryd.prog 14 #[.int .i64 k, v] w (Fails w 6) := by
  obtain ⟨A, c, rfl, _, _⟩ := hv
  go_enter Tryd.func14, Tryd.ntmps14
  go_wp2
  go_ret2
  exact ⟨rfl, rfl⟩

theorem TextBytes_any (s : ByteArray) (w : World) (hs : s.size ≤ 65536) : Calls Tryd.prog 21 #[.string s] w (Bare w (txt s)) := by
  have h8 := num_len8 (n := s.size) (by omega)
  go_enter Tryd.func21, Tryd.ntmps21
  go_wp2_with (first | (go_at_call 23; refine (Bytes_any _ _ (by omega)).mono ?_; rintro e w' ⟨v, rfl, hown, hb⟩) | (at_builtin; refine wp_appS std rfl (.tmp 5) (.tmp 6) rfl w.heap.size _ (num s.size) s rfl hown rfl (by omega) hb.size ?_; intro v' w1 hown' hb'; clear hown))
  go_ret
  exact ⟨_, rfl, hown', hb.trans hb'⟩
theorem ref_Text_yes (s : ByteArray) (w : World) (hs : s.size ≤ 65536) : Calls Tryd.prog 13 #[.string s] w (Made w (txt s)) := by
  go_enter Tryd.func13, Tryd.ntmps13
  go_wp2_with (go_at_call 21; refine (TextBytes_any _ _ hs).mono ?_; rintro e w' ⟨v, rfl, hown, hb⟩)
  go_ret2
  exact ⟨_, rfl, hown, hb⟩
theorem ref_Text_no (s : ByteArray) (w : World) (hs : 65536 < s.size) : Calls Tryd.prog 13 #[.string s] w (Fails w 6) := by
  go_enter Tryd.func13, Tryd.ntmps13
  go_wp2
  go_ret2
  exact ⟨rfl, rfl⟩

theorem ref_Frame_arg (k : Int) (v : Value) (b : List Nat) (w : World) (hk : k < 0 ∨ 255 < k) (hv : Rd w v b) : Calls Tryd.prog 15 #[.int .i64 k, v] w (Fails w 1) := by
  obtain ⟨A, c, rfl, _, _⟩ := hv
  rcases hk with hk | hk
  · go_enter Tryd.func15, Tryd.ntmps15
    go_wp2
    go_ret2
    exact ⟨rfl, rfl⟩
  · have hd : decide (k < 0) = false := decide_eq_false (by omega)
    go_enter Tryd.func15, Tryd.ntmps15
    go_wp2
    go_ret2
    exact ⟨rfl, rfl⟩
theorem ref_Frame_size (k : Int) (v : Value) (b : List Nat) (w : World) (hk : 0 ≤ k) (hk2 : k ≤ 255) (hv : Rd w v b) (hlen : 1048576 < b.length) (hmax : b.length ≤ 9223372036854775807) : Calls Tryd.prog 15 #[.int .i64 k, v] w (Fails w 6) := by
  obtain ⟨A, c, rfl, _, _⟩ := hv
  go_enter Tryd.func15, Tryd.ntmps15
  go_wp2
  go_ret2
  exact ⟨rfl, rfl⟩

set_option maxRecDepth 100000 in
set_option maxHeartbeats 1000000 in
theorem ref_Frame_yes (k : Nat) (v : Value) (b : List Nat) (w : World) (hk : k < 256) (hv : Rd w v b) (hb : ∀ c ∈ b, c < 256) (hlen : b.length ≤ 1048576) :
    Calls Tryd.prog 15 #[.int .i64 (k : Int), v] w (Made w (frm k b)) := by
  have h8 := num_len8 (n := b.length) (by omega)
  have HV := hid hv
  have HB := hid hb
  obtain ⟨A, c, rfl, _, _⟩ := hv
  clear hb
  have hall : ∀ c ∈ hd k b.length ++ b, c < 256 := by intro c hc; rcases List.mem_append.1 hc with h | h; exact hd_lt hk c h; exact HB.out c h
  have hcl := crc_lt (hd k b.length ++ b) hall
  have HA := hid hall
  clear hall
  obtain ⟨C, hC⟩ : ∃ C, crc (hd k b.length ++ b) = C := ⟨_, rfl⟩
  rw [hC] at hcl
  have HC := hid hC
  clear hC
  go_enter Tryd.func15, Tryd.ntmps15
  go_wp2_with (first
    | (go_at_call 23; refine (Bytes_any _ _ (by omega)).mono ?_; rintro e w1 ⟨v1, rfl, o1, b1⟩; have hs1 : w.heap.size + 1 ≤ w1.heap.size := by (have := b1.size; simpa using this))
    | (at_builtin; refine wp_appR std rfl (.tmp 20) (.tmp 23) rfl w.heap.size _ _ [k] (num b.length) rfl ((Own.one w k (Nat.le_refl _)).below b1) rfl o1.rd ?_ ?_ ?_; (focus (simp; omega)); (focus omega); intro v2 w2 o2 b2; have bb2 : Below w.heap.size w w2 := (below_alloc (Nat.le_refl _) (b1.mono (by simp))).trans b2; clear o1 b2)
    | (at_builtin; refine wp_appR std rfl (.tmp 25) (.tmp 26) rfl w2.heap.size _ _ [] (hd k b.length) rfl (Own.made w2 (Nat.le_refl _)) rfl (o2.rd.alloc _) ?_ ?_ ?_; (focus (simp [hd]; omega)); (focus (simp; done)); intro v3 w3 o3 b3; have b3' := below_alloc (Nat.le_refl _) b3; have hs3 := b3'.size; have bb3 := bb2.trans (b3'.mono bb2.size); clear b3)
    | (at_builtin; refine wp_appR std rfl (.tmp 27) (.tmp 28) rfl w2.heap.size _ _ (hd k b.length) b rfl o3 rfl (HV.out.below bb3) ?_ ?_ ?_; (focus (simp [hd]; omega)); (focus omega); intro v4 w4 o4 b4; have b4' : Below w2.heap.size w2 w4 := b3'.trans b4; have hs4 := b4'.size; have bb4 := bb2.trans (b4'.mono bb2.size); clear b4 o3)
    | (go_at_call 9; refine (ref_Sum_any _ (hd k b.length ++ b) _ HA.out o4.rd (by simp [hd]; omega)).mono ?_; rintro e w' ⟨rfl, rfl⟩; rw [HC.out])
    | (at_builtin; refine wp_appR std rfl (.tmp 31) (.tmp 32) rfl w4.heap.size _ _ [165] (hd k b.length) rfl (Own.one w4 165 (Nat.le_refl _)) rfl (((o2.below b4').rd).alloc _) ?_ ?_ ?_; (focus (simp [hd]; omega)); (focus (simp; done)); intro v5 w5 o5 b5; have b5' := below_alloc (Nat.le_refl _) b5; have hs5 := b5'.size; have bb5 := bb4.trans (b5'.mono bb4.size); clear b5 o4)
    | (at_builtin; refine wp_appR std rfl (.tmp 34) (.tmp 46) rfl w4.heap.size _ _ (165 :: hd k b.length) (be4 C) rfl (o5.alloc _) rfl (Rd.four _ _ _ _ _) ?_ ?_ ?_; (focus (simp [hd, be4]; omega)); (focus (simp; omega)); intro v6 w6 o6 b6; have b6' := below_alloc hs5 b6; have hs6 := b6'.size; have bb6 := bb5.trans (b6'.mono bb4.size); clear o5 b6)
    | (at_builtin; refine wp_appR std rfl (.tmp 48) (.tmp 49) rfl w4.heap.size _ _ (165 :: hd k b.length ++ be4 C) b rfl o6 rfl (HV.out.below bb6) ?_ ?_ ?_; (focus (simp [hd, be4]; omega)); (focus omega); intro v7 w7 o7 b7; clear o6))
  go_ret2
  refine ⟨_, rfl, ?_, bb6.trans (b7.mono bb4.size)⟩
  rw [← HC.out] at o7
  exact o7.mono bb4.size
end Go.Proofs.YtpcmonebihgjhaaDoor
