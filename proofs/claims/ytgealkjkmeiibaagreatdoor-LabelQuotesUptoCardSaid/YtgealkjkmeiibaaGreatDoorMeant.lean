/-
  What label.meant answers: the rune that an escape stands for. Conditions: the text is below 2^47 bytes; the errors of package strconv are in place.
-/
import Derived.Test.YtgealkjkmeiibaaGreatDoorUnq
import Derived.Test.YtgealkjkmeiibaaGreatDoorPair
import Derived.Test.YtgealkjkmeiibaaGreatDoorHexNum
import Derived.Ground.MpProg
import Derived.Shelf.Lay
namespace Go.Proofs
open Go.Shelf
def Tryz.laysPu_ren : Go.Shelf.Ren := ⟨fun | 14 => 118 | 16 => 178 | 17 => 179 | 19 => 213 | 20 => 214 | 21 => 215 | 22 => 216 | 23 => 217 | 24 => 218 | 25 => 253 | 27 => 102 | 26 => 254 | 28 => 167 | 29 => 180 | 30 => 219 | 31 => 220 | 32 => 221 | 33 => 222 | 35 => 236 | 34 => 255 | 36 => 256 | 37 => 257 | 38 => 258 | 39 => 283 | 40 => 284 | n => n, fun | 9 => 9 | 3 => 3 | 22 => 176 | 24 => 101 | 25 => 177 | 4 => 4 | 34 => 279 | 5 => 5 | 36 => 188 | 37 => 39 | 0 => 0 | 39 => 281 | 21 => 21 | 44 => 309 | 47 => 173 | 50 => 332 | 48 => 330 | 2 => 2 | 52 => 284 | 55 => 287 | 59 => 312 | 60 => 251 | 20 => 20 | 61 => 313 | 65 => 340 | 66 => 341 | 67 => 97 | n => n, fun | 0 => 4 | 1 => 5 | 2 => 6 | 3 => 7 | 4 => 8 | n => n⟩
theorem Tryz.laysPu : Go.Proofs.LaysPu.n14 Tryz.prog Tryz.laysPu_ren := {
  mixed := by kernel_rfl
  f14 := Tryz.func118.trans (congrArg some (by kernel_rfl))
  f16 := Tryz.func178.trans (congrArg some (by kernel_rfl))
  f17 := Tryz.func179.trans (congrArg some (by kernel_rfl))
  f19 := Tryz.func213.trans (congrArg some (by kernel_rfl))
  f20 := Tryz.func214.trans (congrArg some (by kernel_rfl))
  f21 := Tryz.func215.trans (congrArg some (by kernel_rfl))
  f22 := Tryz.func216.trans (congrArg some (by kernel_rfl))
  f23 := Tryz.func217.trans (congrArg some (by kernel_rfl))
  f24 := Tryz.func218.trans (congrArg some (by kernel_rfl))
  f25 := Tryz.func253.trans (congrArg some (by kernel_rfl))
  f26 := Tryz.func254.trans (congrArg some (by kernel_rfl))
  f27 := Tryz.func102.trans (congrArg some (by kernel_rfl))
  f28 := Tryz.func167.trans (congrArg some (by kernel_rfl))
  f29 := Tryz.func180.trans (congrArg some (by kernel_rfl))
  f30 := Tryz.func219.trans (congrArg some (by kernel_rfl))
  f31 := Tryz.func220.trans (congrArg some (by kernel_rfl))
  f32 := Tryz.func221.trans (congrArg some (by kernel_rfl))
  f33 := Tryz.func222.trans (congrArg some (by kernel_rfl))
  f34 := Tryz.func255.trans (congrArg some (by kernel_rfl))
  f35 := Tryz.func236.trans (congrArg some (by kernel_rfl))
  f36 := Tryz.func256.trans (congrArg some (by kernel_rfl))
  f37 := Tryz.func257.trans (congrArg some (by kernel_rfl))
  f38 := Tryz.func258.trans (congrArg some (by kernel_rfl))
  f39 := Tryz.func283.trans (congrArg some (by kernel_rfl))
  f40 := Tryz.func284.trans (congrArg some (by kernel_rfl))
  t0 := Tryz.underlying0
  a0 := Tryz.isAgg0
  z0 := Tryz.sizeOf0
  v0 := Tryz.zeroValue0
  i0 := by kernel_rfl
  t2 := Tryz.underlying2
  a2 := Tryz.isAgg2
  z2 := Tryz.sizeOf2
  v2 := Tryz.zeroValue2
  i2 := by kernel_rfl
  t3 := Tryz.underlying3
  a3 := Tryz.isAgg3
  z3 := Tryz.sizeOf3
  v3 := Tryz.zeroValue3
  i3 := by kernel_rfl
  t4 := Tryz.underlying4
  a4 := Tryz.isAgg4
  z4 := Tryz.sizeOf4
  v4 := Tryz.zeroValue4
  i4 := by kernel_rfl
  t5 := Tryz.underlying5
  a5 := Tryz.isAgg5
  z5 := Tryz.sizeOf5
  v5 := Tryz.zeroValue5
  i5 := by kernel_rfl
  t9 := Tryz.underlying9
  a9 := Tryz.isAgg9
  z9 := Tryz.sizeOf9
  v9 := Tryz.zeroValue9
  i9 := by kernel_rfl
  t20 := Tryz.underlying20
  a20 := Tryz.isAgg20
  z20 := Tryz.sizeOf20
  v20 := Tryz.zeroValue20
  i20 := by kernel_rfl
  t21 := Tryz.underlying21
  a21 := Tryz.isAgg21
  z21 := Tryz.sizeOf21
  v21 := Tryz.zeroValue21
  i21 := by kernel_rfl
  t22 := Tryz.underlying176
  a22 := Tryz.isAgg176
  z22 := Tryz.sizeOf176
  v22 := Tryz.zeroValue176
  i22 := by kernel_rfl
  t24 := Tryz.underlying101
  a24 := Tryz.isAgg101
  z24 := Tryz.sizeOf101
  v24 := Tryz.zeroValue101
  i24 := by kernel_rfl
  t25 := Tryz.underlying177
  a25 := Tryz.isAgg177
  z25 := Tryz.sizeOf177
  v25 := Tryz.zeroValue177
  i25 := by kernel_rfl
  t34 := Tryz.underlying279
  a34 := Tryz.isAgg279
  z34 := Tryz.sizeOf279
  v34 := Tryz.zeroValue279
  i34 := by kernel_rfl
  c34 := by kernel_rfl
  t36 := Tryz.underlying188
  a36 := Tryz.isAgg188
  z36 := Tryz.sizeOf188
  v36 := Tryz.zeroValue188
  i36 := by kernel_rfl
  t37 := Tryz.underlying39
  a37 := Tryz.isAgg39
  z37 := Tryz.sizeOf39
  v37 := Tryz.zeroValue39
  i37 := by kernel_rfl
  t39 := Tryz.underlying281
  a39 := Tryz.isAgg281
  z39 := Tryz.sizeOf281
  v39 := Tryz.zeroValue281
  i39 := by kernel_rfl
  t44 := Tryz.underlying309
  a44 := Tryz.isAgg309
  z44 := Tryz.sizeOf309
  v44 := Tryz.zeroValue309
  i44 := by kernel_rfl
  t47 := Tryz.underlying173
  a47 := Tryz.isAgg173
  z47 := Tryz.sizeOf173
  v47 := Tryz.zeroValue173
  i47 := by kernel_rfl
  t48 := Tryz.underlying330
  a48 := Tryz.isAgg330
  z48 := Tryz.sizeOf330
  v48 := Tryz.zeroValue330
  i48 := by kernel_rfl
  t50 := Tryz.underlying332
  a50 := Tryz.isAgg332
  z50 := Tryz.sizeOf332
  v50 := Tryz.zeroValue332
  i50 := by kernel_rfl
  t52 := Tryz.underlying284
  a52 := Tryz.isAgg284
  z52 := Tryz.sizeOf284
  v52 := Tryz.zeroValue284
  i52 := by kernel_rfl
  t55 := Tryz.underlying287
  a55 := Tryz.isAgg287
  z55 := Tryz.sizeOf287
  v55 := Tryz.zeroValue287
  i55 := by kernel_rfl
  t59 := Tryz.underlying312
  a59 := Tryz.isAgg312
  z59 := Tryz.sizeOf312
  v59 := Tryz.zeroValue312
  i59 := by kernel_rfl
  t60 := Tryz.underlying251
  a60 := Tryz.isAgg251
  z60 := Tryz.sizeOf251
  v60 := Tryz.zeroValue251
  i60 := by kernel_rfl
  t61 := Tryz.underlying313
  a61 := Tryz.isAgg313
  z61 := Tryz.sizeOf313
  t65 := Tryz.underlying340
  a65 := Tryz.isAgg340
  z65 := Tryz.sizeOf340
  v65 := Tryz.zeroValue340
  i65 := by kernel_rfl
  t66 := Tryz.underlying341
  a66 := Tryz.isAgg341
  z66 := Tryz.sizeOf341
  v66 := Tryz.zeroValue341
  i66 := by kernel_rfl
  t67 := Tryz.underlying97
  a67 := Tryz.isAgg97
  z67 := Tryz.sizeOf97
  v67 := Tryz.zeroValue97
  i67 := by kernel_rfl
  g0 := by kernel_rfl
  m0 := by kernel_rfl
  g1 := by kernel_rfl
  m1 := by kernel_rfl
  g2 := by kernel_rfl
  m2 := by kernel_rfl
  g3 := by kernel_rfl
  m3 := by kernel_rfl
  g4 := by kernel_rfl
  m4 := by kernel_rfl }
end Go.Proofs
namespace Go.Proofs.YtgealkjkmeiibaaGreatDoor
open Go.RowKit Go.Icz Go.Shelf
theorem ParseUint_is (s : ByteArray) (hlim : s.size ≤ 281474976710656) (w : World) (hE : Errs w) :
    Calls Tryz.prog 118 #[.string s, .int .i64 16, .int .i64 8] w fun e w' => PUB (parse16 s.data.toList) e ∧ Below w.heap.size w w' := by
  obtain ⟨⟨a, ha, ha2⟩, b, hb1, hb2⟩ := hE
  exact ParseUint_16_public Tryz.laysPu s hlim a b w ha ha2 hb1 hb2
set_option maxHeartbeats 1000000 in
theorem meant_is (t : ByteArray) (ht : t.size ≤ 140737488355328) (w : World) (hT : Tabs w) :
    Calls Tryz.prog 55 #[.string t] w fun e w' => e = .returned (.int .i32 (meantS t.data.toList)) ∧ Below w.heap.size w w' := by
  have hc := fun w => Tryz.strings_CutPrefix t ⟨#[92, 117, 123]⟩ w
  have e1 : (⟨#[92, 117, 123]⟩ : ByteArray).data.toList = [92, 117, 123] := rfl
  rw [e1] at hc
  cases hx : Lib.hasPrefix t.data.toList [92, 117, 123] with
  | true =>
    have hp : Lib.trimPrefix t.data.toList [92, 117, 123] = t.data.toList.drop 3 := by unfold Lib.trimPrefix; rw [hx]; rfl
    have HM : Hid (meantS t.data.toList = (parse16 (before (t.data.toList.drop 3) 125)).getD 65533) := hid (by unfold meantS; rw [if_pos hx]; rfl)
    rw [hp, hx] at hc
    have hl : (t.data.toList.drop 3).length ≤ t.size := by rw [List.length_drop, size_len]; omega
    generalize t.data.toList.drop 3 = u at hc HM hl
    have hu := fun w => Cut_is ⟨u.toArray⟩ 125 w (by rw [Lib.size_mk]; omega)
    have e2 : (⟨u.toArray⟩ : ByteArray).data.toList = u := by simp
    rw [e2] at hu
    have hbl := before_sub u 125
    have hP := fun w hE => ParseUint_is ⟨(before u 125).toArray⟩ (by rw [Lib.size_mk]; omega) w hE
    have e3 : (⟨(before u 125).toArray⟩ : ByteArray).data.toList = before u 125 := by simp
    rw [e3] at hP
    unfold Cuts at hu
    have hle : ∀ m, parse16 (before u 125) = some m → m ≤ 255 := fun m h => by
      unfold parse16 at h
      split at h
      · cases h
      · exact pu_le 0 _ m (by omega) h
    generalize parse16 (before u 125) = o at hP HM hle
    generalize before u 125 = bb at hu hP
    generalize after u 125 = aa at hu
    generalize has u 125 = ff at hu
    clear hx hp e2 e3 hbl hl
    cases o with
    | some m =>
      have hm := hle m rfl
      have HM' : Hid (meantS t.data.toList = m) := hid HM.out
      clear hle HM
      go_enter Tryz.func55, Tryz.ntmps55
      go_wp2_with (first
        | (go_at_call 116; refine (hc _).mono ?_; rintro e w1 ⟨rfl, rfl⟩)
        | (go_at_call 117; refine (hu _).mono ?_; rintro e w2 ⟨rfl, b2⟩)
        | (go_at_call 118; refine (hP _ (hT.below b2).err).mono ?_; rintro e w3 ⟨rfl, b3⟩))
      go_ret
      exact ⟨by rw [HM'.out]; rfl, b2.trans (b3.mono b2.size)⟩
    | none =>
      have HM' : Hid (meantS t.data.toList = 65533) := hid HM.out
      clear hle HM
      go_enter Tryz.func55, Tryz.ntmps55
      go_wp2_with (first
        | (go_at_call 116; refine (hc _).mono ?_; rintro e w1 ⟨rfl, rfl⟩)
        | (go_at_call 117; refine (hu _).mono ?_; rintro e w2 ⟨rfl, b2⟩)
        | (go_at_call 118; refine (hP _ (hT.below b2).err).mono ?_; rintro e w3 ⟨⟨x, T, N, rfl⟩, b3⟩))
      go_ret
      exact ⟨by rw [HM'.out]; rfl, b2.trans (b3.mono b2.size)⟩
  | false =>
    have hp : Lib.trimPrefix t.data.toList [92, 117, 123] = t.data.toList := by unfold Lib.trimPrefix; rw [hx]; rfl
    rw [hp, hx] at hc
    have h1 := fun w => Tryz.strings_HasPrefix t ⟨#[92, 110]⟩ w
    have h2 := fun w => Tryz.strings_HasPrefix t ⟨#[92, 34]⟩ w
    have h3 := fun w => Tryz.strings_HasPrefix t ⟨#[92, 92]⟩ w
    have f1 : (⟨#[92, 110]⟩ : ByteArray).data.toList = [92, 110] := rfl
    have f2 : (⟨#[92, 34]⟩ : ByteArray).data.toList = [92, 34] := rfl
    have f3 : (⟨#[92, 92]⟩ : ByteArray).data.toList = [92, 92] := rfl
    rw [f1] at h1; rw [f2] at h2; rw [f3] at h3
    have HM : Hid (meantS t.data.toList = if Lib.hasPrefix t.data.toList [92, 110] then 10 else if Lib.hasPrefix t.data.toList [92, 34] then 34 else if Lib.hasPrefix t.data.toList [92, 92] then 92 else 65533) := hid (by unfold meantS; rw [if_neg (by rw [hx]; simp)])
    generalize Lib.hasPrefix t.data.toList [92, 110] = p1 at *
    generalize Lib.hasPrefix t.data.toList [92, 34] = p2 at *
    generalize Lib.hasPrefix t.data.toList [92, 92] = p3 at *
    clear hx hp f1 f2 f3 e1
    cases p1 <;> cases p2 <;> cases p3 <;>
    (go_enter Tryz.func55, Tryz.ntmps55
     go_wp2_with (first
        | (go_at_call 116; refine (hc _).mono ?_; rintro e w1 ⟨rfl, rfl⟩)
        | (go_at_call 53; ((with_reducible refine (h1 _).mono ?_); rintro e w1 ⟨rfl, rfl⟩))
        | (go_at_call 53; ((with_reducible refine (h2 _).mono ?_); rintro e w1 ⟨rfl, rfl⟩))
        | (go_at_call 53; ((with_reducible refine (h3 _).mono ?_); rintro e w1 ⟨rfl, rfl⟩)))
     go_ret
     exact ⟨by rw [HM.out]; rfl, Below.refl _ _⟩)
end Go.Proofs.YtgealkjkmeiibaaGreatDoor
