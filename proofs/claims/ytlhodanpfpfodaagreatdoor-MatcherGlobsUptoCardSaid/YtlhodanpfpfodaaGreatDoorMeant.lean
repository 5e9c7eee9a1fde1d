/-
  What label.meant answers: the rune that an escape stands for. Conditions: the text is below 2^47 bytes; the errors of package strconv are in place.
-/
import Derived.Test.YtlhodanpfpfodaaGreatDoorUnq
import Derived.Test.YtlhodanpfpfodaaGreatDoorPair
import Derived.Test.YtlhodanpfpfodaaGreatDoorHexNum
import Derived.Ground.MpProg
import Derived.Shelf.Lay
namespace Go.Proofs
open Go.Shelf
def Tryz.laysPu_ren : Go.Shelf.Ren := ⟨fun | 14 => 130 | 16 => 159 | 17 => 147 | 19 => 182 | 20 => 183 | 21 => 170 | 22 => 171 | 23 => 172 | 24 => 173 | 25 => 168 | 27 => 65 | 26 => 185 | 28 => 99 | 29 => 124 | 30 => 149 | 31 => 150 | 32 => 151 | 33 => 152 | 35 => 142 | 34 => 174 | 36 => 175 | 37 => 176 | 38 => 177 | 39 => 186 | 40 => 187 | n => n, fun | 9 => 9 | 3 => 3 | 22 => 180 | 24 => 83 | 25 => 181 | 4 => 4 | 34 => 209 | 5 => 5 | 36 => 166 | 37 => 59 | 0 => 0 | 39 => 212 | 21 => 21 | 44 => 225 | 47 => 132 | 50 => 229 | 48 => 227 | 2 => 2 | 52 => 196 | 55 => 198 | 59 => 216 | 60 => 192 | 20 => 20 | 61 => 217 | 65 => 230 | 66 => 231 | 67 => 75 | n => n, fun | 0 => 5 | 1 => 6 | 2 => 4 | 3 => 7 | 4 => 8 | n => n⟩
theorem Tryz.laysPu : Go.Proofs.LaysPu.n14 Tryz.prog Tryz.laysPu_ren := {
  mixed := by kernel_rfl
  f14 := Tryz.func130.trans (congrArg some (by kernel_rfl))
  f16 := Tryz.func159.trans (congrArg some (by kernel_rfl))
  f17 := Tryz.func147.trans (congrArg some (by kernel_rfl))
  f19 := Tryz.func182.trans (congrArg some (by kernel_rfl))
  f20 := Tryz.func183.trans (congrArg some (by kernel_rfl))
  f21 := Tryz.func170.trans (congrArg some (by kernel_rfl))
  f22 := Tryz.func171.trans (congrArg some (by kernel_rfl))
  f23 := Tryz.func172.trans (congrArg some (by kernel_rfl))
  f24 := Tryz.func173.trans (congrArg some (by kernel_rfl))
  f25 := Tryz.func168.trans (congrArg some (by kernel_rfl))
  f26 := Tryz.func185.trans (congrArg some (by kernel_rfl))
  f27 := Tryz.func65.trans (congrArg some (by kernel_rfl))
  f28 := Tryz.func99.trans (congrArg some (by kernel_rfl))
  f29 := Tryz.func124.trans (congrArg some (by kernel_rfl))
  f30 := Tryz.func149.trans (congrArg some (by kernel_rfl))
  f31 := Tryz.func150.trans (congrArg some (by kernel_rfl))
  f32 := Tryz.func151.trans (congrArg some (by kernel_rfl))
  f33 := Tryz.func152.trans (congrArg some (by kernel_rfl))
  f34 := Tryz.func174.trans (congrArg some (by kernel_rfl))
  f35 := Tryz.func142.trans (congrArg some (by kernel_rfl))
  f36 := Tryz.func175.trans (congrArg some (by kernel_rfl))
  f37 := Tryz.func176.trans (congrArg some (by kernel_rfl))
  f38 := Tryz.func177.trans (congrArg some (by kernel_rfl))
  f39 := Tryz.func186.trans (congrArg some (by kernel_rfl))
  f40 := Tryz.func187.trans (congrArg some (by kernel_rfl))
  t0 := Tryz.underlying0
  a0 := Tryz.isAgg0
  z0 := Tryz.sizeOf0
  v0 := Tryz.zeroValue0
  i0 := by kernel_rfl
  t2 := Tryz.underlying2
  a2 := Tryz.isAgg2
  z2 := Tryz.sizeOf2
  v2 := Tryz.zeroValue2
  i2 := by kernel_rfl
  t3 := Tryz.underlying3
  a3 := Tryz.isAgg3
  z3 := Tryz.sizeOf3
  v3 := Tryz.zeroValue3
  i3 := by kernel_rfl
  t4 := Tryz.underlying4
  a4 := Tryz.isAgg4
  z4 := Tryz.sizeOf4
  v4 := Tryz.zeroValue4
  i4 := by kernel_rfl
  t5 := Tryz.underlying5
  a5 := Tryz.isAgg5
  z5 := Tryz.sizeOf5
  v5 := Tryz.zeroValue5
  i5 := by kernel_rfl
  t9 := Tryz.underlying9
  a9 := Tryz.isAgg9
  z9 := Tryz.sizeOf9
  v9 := Tryz.zeroValue9
  i9 := by kernel_rfl
  t20 := Tryz.underlying20
  a20 := Tryz.isAgg20
  z20 := Tryz.sizeOf20
  v20 := Tryz.zeroValue20
  i20 := by kernel_rfl
  t21 := Tryz.underlying21
  a21 := Tryz.isAgg21
  z21 := Tryz.sizeOf21
  v21 := Tryz.zeroValue21
  i21 := by kernel_rfl
  t22 := Tryz.underlying180
  a22 := Tryz.isAgg180
  z22 := Tryz.sizeOf180
  v22 := Tryz.zeroValue180
  i22 := by kernel_rfl
  t24 := Tryz.underlying83
  a24 := Tryz.isAgg83
  z24 := Tryz.sizeOf83
  v24 := Tryz.zeroValue83
  i24 := by kernel_rfl
  t25 := Tryz.underlying181
  a25 := Tryz.isAgg181
  z25 := Tryz.sizeOf181
  v25 := Tryz.zeroValue181
  i25 := by kernel_rfl
  t34 := Tryz.underlying209
  a34 := Tryz.isAgg209
  z34 := Tryz.sizeOf209
  v34 := Tryz.zeroValue209
  i34 := by kernel_rfl
  c34 := by kernel_rfl
  t36 := Tryz.underlying166
  a36 := Tryz.isAgg166
  z36 := Tryz.sizeOf166
  v36 := Tryz.zeroValue166
  i36 := by kernel_rfl
  t37 := Tryz.underlying59
  a37 := Tryz.isAgg59
  z37 := Tryz.sizeOf59
  v37 := Tryz.zeroValue59
  i37 := by kernel_rfl
  t39 := Tryz.underlying212
  a39 := Tryz.isAgg212
  z39 := Tryz.sizeOf212
  v39 := Tryz.zeroValue212
  i39 := by kernel_rfl
  t44 := Tryz.underlying225
  a44 := Tryz.isAgg225
  z44 := Tryz.sizeOf225
  v44 := Tryz.zeroValue225
  i44 := by kernel_rfl
  t47 := Tryz.underlying132
  a47 := Tryz.isAgg132
  z47 := Tryz.sizeOf132
  v47 := Tryz.zeroValue132
  i47 := by kernel_rfl
  t48 := Tryz.underlying227
  a48 := Tryz.isAgg227
  z48 := Tryz.sizeOf227
  v48 := Tryz.zeroValue227
  i48 := by kernel_rfl
  t50 := Tryz.underlying229
  a50 := Tryz.isAgg229
  z50 := Tryz.sizeOf229
  v50 := Tryz.zeroValue229
  i50 := by kernel_rfl
  t52 := Tryz.underlying196
  a52 := Tryz.isAgg196
  z52 := Tryz.sizeOf196
  v52 := Tryz.zeroValue196
  i52 := by kernel_rfl
  t55 := Tryz.underlying198
  a55 := Tryz.isAgg198
  z55 := Tryz.sizeOf198
  v55 := Tryz.zeroValue198
  i55 := by kernel_rfl
  t59 := Tryz.underlying216
  a59 := Tryz.isAgg216
  z59 := Tryz.sizeOf216
  v59 := Tryz.zeroValue216
  i59 := by kernel_rfl
  t60 := Tryz.underlying192
  a60 := Tryz.isAgg192
  z60 := Tryz.sizeOf192
  v60 := Tryz.zeroValue192
  i60 := by kernel_rfl
  t61 := Tryz.underlying217
  a61 := Tryz.isAgg217
  z61 := Tryz.sizeOf217
  t65 := Tryz.underlying230
  a65 := Tryz.isAgg230
  z65 := Tryz.sizeOf230
  v65 := Tryz.zeroValue230
  i65 := by kernel_rfl
  t66 := Tryz.underlying231
  a66 := Tryz.isAgg231
  z66 := Tryz.sizeOf231
  v66 := Tryz.zeroValue231
  i66 := by kernel_rfl
  t67 := Tryz.underlying75
  a67 := Tryz.isAgg75
  z67 := Tryz.sizeOf75
  v67 := Tryz.zeroValue75
  i67 := by kernel_rfl
  g0 := by kernel_rfl
  m0 := by kernel_rfl
  g1 := by kernel_rfl
  m1 := by kernel_rfl
  g2 := by kernel_rfl
  m2 := by kernel_rfl
  g3 := by kernel_rfl
  m3 := by kernel_rfl
  g4 := by kernel_rfl
  m4 := by kernel_rfl }
end Go.Proofs
namespace Go.Proofs.YtlhodanpfpfodaaGreatDoor
open Go.RowKit Go.Icz Go.Shelf
theorem ParseUint_is (s : ByteArray) (hlim : s.size ≤ 281474976710656) (w : World) (hE : Errs w) :
    Calls Tryz.prog 130 #[.string s, .int .i64 16, .int .i64 8] w fun e w' => PUB (parse16 s.data.toList) e ∧ Below w.heap.size w w' := by
  obtain ⟨⟨a, ha, ha2⟩, b, hb1, hb2⟩ := hE
  exact ParseUint_16_public Tryz.laysPu s hlim a b w ha ha2 hb1 hb2
set_option maxHeartbeats 1000000 in
theorem meant_is (t : ByteArray) (ht : t.size ≤ 140737488355328) (w : World) (hT : Tabs w) :
    Calls Tryz.prog 108 #[.string t] w fun e w' => e = .returned (.int .i32 (meantS t.data.toList)) ∧ Below w.heap.size w w' := by
  have hc := fun w => Tryz.strings_CutPrefix t ⟨#[92, 117, 123]⟩ w
  have e1 : (⟨#[92, 117, 123]⟩ : ByteArray).data.toList = [92, 117, 123] := rfl
  rw [e1] at hc
  cases hx : Lib.hasPrefix t.data.toList [92, 117, 123] with
  | true =>
    have hp : Lib.trimPrefix t.data.toList [92, 117, 123] = t.data.toList.drop 3 := by unfold Lib.trimPrefix; rw [hx]; rfl
    have HM : Hid (meantS t.data.toList = (parse16 (before (t.data.toList.drop 3) 125)).getD 65533) := hid (by unfold meantS; rw [if_pos hx]; rfl)
    rw [hp, hx] at hc
    have hl : (t.data.toList.drop 3).length ≤ t.size := by rw [List.length_drop, size_len]; omega
    generalize t.data.toList.drop 3 = u at hc HM hl
    have hu := fun w => Cut_is ⟨u.toArray⟩ 125 w (by rw [Lib.size_mk]; omega)
    have e2 : (⟨u.toArray⟩ : ByteArray).data.toList = u := by simp
    rw [e2] at hu
    have hbl := before_sub u 125
    have hP := fun w hE => ParseUint_is ⟨(before u 125).toArray⟩ (by rw [Lib.size_mk]; omega) w hE
    have e3 : (⟨(before u 125).toArray⟩ : ByteArray).data.toList = before u 125 := by simp
    rw [e3] at hP
    unfold Cuts at hu
    have hle : ∀ m, parse16 (before u 125) = some m → m ≤ 255 := fun m h => by
      unfold parse16 at h
      split at h
      · cases h
      · exact pu_le 0 _ m (by omega) h
    generalize parse16 (before u 125) = o at hP HM hle
    generalize before u 125 = bb at hu hP
    generalize after u 125 = aa at hu
    generalize has u 125 = ff at hu
    clear hx hp e2 e3 hbl hl
    cases o with
    | some m =>
      have hm := hle m rfl
      have HM' : Hid (meantS t.data.toList = m) := hid HM.out
      clear hle HM
      go_enter Tryz.func108, Tryz.ntmps108
      go_wp2_with (first
        | (go_at_call 72; refine (hc _).mono ?_; rintro e w1 ⟨rfl, rfl⟩)
        | (go_at_call 74; refine (hu _).mono ?_; rintro e w2 ⟨rfl, b2⟩)
        | (go_at_call 130; refine (hP _ (hT.below b2).err).mono ?_; rintro e w3 ⟨rfl, b3⟩))
      go_ret
      exact ⟨by rw [HM'.out]; rfl, b2.trans (b3.mono b2.size)⟩
    | none =>
      have HM' : Hid (meantS t.data.toList = 65533) := hid HM.out
      clear hle HM
      go_enter Tryz.func108, Tryz.ntmps108
      go_wp2_with (first
        | (go_at_call 72; refine (hc _).mono ?_; rintro e w1 ⟨rfl, rfl⟩)
        | (go_at_call 74; refine (hu _).mono ?_; rintro e w2 ⟨rfl, b2⟩)
        | (go_at_call 130; refine (hP _ (hT.below b2).err).mono ?_; rintro e w3 ⟨⟨x, T, N, rfl⟩, b3⟩))
      go_ret
      exact ⟨by rw [HM'.out]; rfl, b2.trans (b3.mono b2.size)⟩
  | false =>
    have hp : Lib.trimPrefix t.data.toList [92, 117, 123] = t.data.toList := by unfold Lib.trimPrefix; rw [hx]; rfl
    rw [hp, hx] at hc
    have h1 := fun w => Tryz.strings_HasPrefix t ⟨#[92, 110]⟩ w
    have h2 := fun w => Tryz.strings_HasPrefix t ⟨#[92, 34]⟩ w
    have h3 := fun w => Tryz.strings_HasPrefix t ⟨#[92, 92]⟩ w
    have f1 : (⟨#[92, 110]⟩ : ByteArray).data.toList = [92, 110] := rfl
    have f2 : (⟨#[92, 34]⟩ : ByteArray).data.toList = [92, 34] := rfl
    have f3 : (⟨#[92, 92]⟩ : ByteArray).data.toList = [92, 92] := rfl
    rw [f1] at h1; rw [f2] at h2; rw [f3] at h3
    have HM : Hid (meantS t.data.toList = if Lib.hasPrefix t.data.toList [92, 110] then 10 else if Lib.hasPrefix t.data.toList [92, 34] then 34 else if Lib.hasPrefix t.data.toList [92, 92] then 92 else 65533) := hid (by unfold meantS; rw [if_neg (by rw [hx]; simp)])
    generalize Lib.hasPrefix t.data.toList [92, 110] = p1 at *
    generalize Lib.hasPrefix t.data.toList [92, 34] = p2 at *
    generalize Lib.hasPrefix t.data.toList [92, 92] = p3 at *
    clear hx hp f1 f2 f3 e1
    cases p1 <;> cases p2 <;> cases p3 <;>
    (go_enter Tryz.func108, Tryz.ntmps108
     go_wp2_with (first
        | (go_at_call 72; refine (hc _).mono ?_; rintro e w1 ⟨rfl, rfl⟩)
        | (go_at_call 107; ((with_reducible refine (h1 _).mono ?_); rintro e w1 ⟨rfl, rfl⟩))
        | (go_at_call 107; ((with_reducible refine (h2 _).mono ?_); rintro e w1 ⟨rfl, rfl⟩))
        | (go_at_call 107; ((with_reducible refine (h3 _).mono ?_); rintro e w1 ⟨rfl, rfl⟩)))
     go_ret
     exact ⟨by rw [HM.out]; rfl, Below.refl _ _⟩)
end Go.Proofs.YtlhodanpfpfodaaGreatDoor
