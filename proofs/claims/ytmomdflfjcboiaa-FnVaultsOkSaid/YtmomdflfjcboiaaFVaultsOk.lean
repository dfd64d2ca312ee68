/- Whatever the code, the law of VaultsOk answers true: of what is drawn the program's VaultsOk is the model's, and in vaults that are ones each record is found by the program's VaultsGet. -/
import Derived.Test.YtmomdflfjcboiaaZa
import Derived.Test.YtmomdflfjcboiaaYg
import Derived.Test.YtmomdflfjcboiaaFx
import Derived.Test.YtmomdflfjcboiaaFb
import Derived.StillTailTactics
namespace Go.Proofs.Ytmomdflfjcboiaa
open Go.ChangeShapes Go.WideShapes Go.ChangeAt Go.RowKit Go.Deep

theorem parts_few {ks : Ks} {f : Val → Bool} {v : Val} (hok : kindsOk ks = true) (h : okOf ks f v = true) : v.parts.length ≤ 3 := by
  unfold okOf at h
  have pl : ∀ b : Bool, (plainV v && b) = true → v.parts.length ≤ 3 := fun b hb => by
    unfold plainV at hb
    simp only [Bool.and_eq_true, decide_eq_true_eq] at hb
    omega
  split at h
  · exact pl _ h
  · split at h
    · exact pl _ h
    · split at h
      · exact pl _ h
      · split at h
        · cases h
        · rename_i m k _
          simp only [Bool.and_eq_true, decide_eq_true_eq] at h
          have hr := ok_rec hok h.1.1.1.1
          unfold recB at hr
          simp only [Bool.and_eq_true, decide_eq_true_eq] at hr
          have := hr.1.2
          have := h.1.2
          omega
theorem smolD_ok {ks : Ks} (hok : kindsOk ks = true) : ∀ (d : Nat) (v : Val), okV ks d v = true → SmolD d v
  | 0, _, h => by cases h
  | d + 1, v, h => by
    have hu : okOf ks (okV ks d) v = true := h
    obtain ⟨p1, p2⟩ := ok_bare hu
    have h3 := parts_few hok hu
    exact ⟨by omega, by rw [p1]; simp, fun x hx => smolD_ok hok d x (p2 x hx)⟩
theorem vOk_kept {ks : Ks} {d : Nat} {xs : List KepR} (h : vOk ks d xs = true) : ∀ x ∈ xs, SmolKep d x := fun x hx => by
  unfold vOk at h
  simp only [Bool.and_eq_true] at h
  obtain ⟨k, hk, rfl⟩ := List.getElem_of_mem hx
  have := okList_at h.2 hk
  unfold okAtK at this
  rw [getK hk] at this
  simp only [Bool.and_eq_true] at this
  have hkb := kept_okOf this.1.2
  obtain ⟨p1, p2⟩ := ok_bare hkb
  have h3 := parts_few h.1 hkb
  exact ⟨by omega, by rw [p1]; simp, fun y hy => smolD_ok h.1 d y (p2 y hy)⟩
theorem idx_self {ks : Ks} {d : Nat} {xs : List KepR} {k : Nat} (h : vOk ks d xs = true) (hk : k < xs.length) : getR ks d xs xs[k].o xs[k].v.ty = (xs[k].v, true) := by
  have hf := findK_first (o := xs[k].o) (t := xs[k].v.ty) xs 0 k hk (by rw [getK hk]; exact isK2_same.2 ⟨rfl, rfl⟩) (fun q hq => by
    have hs := vOk_sorted h q k hq hk
    rw [getK hk] at hs
    rw [Bool.eq_false_iff]
    intro h'
    have := sameK_not (isK2_same.1 h')
    rw [hs] at this
    cases this)
  simp only [Nat.zero_add] at hf
  have hi : idxK ks d xs xs[k].o xs[k].v.ty = some k := by
    unfold idxK
    rw [if_pos h, hf, if_pos (by omega)]
    simp
  unfold getR
  rw [hi]
  simp only [getK hk]

set_option maxRecDepth 100000 in
set_option maxHeartbeats 4000000 in
theorem fnVaultsOk (F : Nat → Prop) (v : Value) (xs : List Nat) (w : World) (h : Cod.u8.Sl F w v xs) (hF : ∀ b, F b → b < w.heap.size) :
    Calls Try.prog 7 #[v] w fun e w' => e = .returned (.bool true) ∧ Below w.heap.size w w' := by
  have HS := Lib.hid h
  obtain ⟨A, cap, rfl, hlc, hcm, _⟩ := h
  unfold maxLen at hcm
  by_cases hl : 1048576 < xs.length
  · go_enter Try.func7, Try.ntmps7
    go_wp2
    go_ret
    exact ⟨rfl, Below.refl _ _⟩
  · go_enter Try.func7, Try.ntmps7
    go_wp2_with fail
    refine (drawVaultsOk_any F _ xs w HS.out hF).mono ?_
    rintro e w1 ⟨ad, cap, ks, A2, cap2, zs, rfl, hM, hV, hg, hlen⟩
    have HM1 := Lib.hid hM
    have HV1 := Lib.hid hV
    clear hM hV hg
    go_wp2_with fail
    refine (implVaultsOk_any (ks := ks) 9 (Fresh w w1) _ _ zs w1 HM1.out.1 HV1.out (fun b hb => hb.2)).mono ?_
    rintro e w2 ⟨rfl, hb2⟩
    have HM2 := Lib.hid (HM1.out.on hb2)
    have HV2 := Lib.hid ((HV1.out.keep (below_keeps hb2 fun b hb => hb.2)).mono fun b hb => (⟨hb.1, Nat.lt_of_lt_of_le hb.2 hb2.size⟩ : Fresh w w2 b))
    clear hb2
    go_wp2_with fail
    refine (specVaultsOk_any (ks := ks) 9 (Fresh w w2) _ _ zs w2 HM2.out.1 HV2.out (fun b hb => hb.2)).mono ?_
    rintro e w3 ⟨rfl, hb3⟩
    have HM3 := Lib.hid (HM2.out.on hb3)
    have HV3 := Lib.hid ((HV2.out.keep (below_keeps hb3 fun b hb => hb.2)).mono fun b hb => (⟨hb.1, Nat.lt_of_lt_of_le hb.2 hb3.size⟩ : Fresh w w3 b))
    clear hb3
    cases hok : vOk ks 9 zs with
    | false =>
      clear hok
      go_wp2
      go_loopw [7] (fun i wr => i = .int .i64 0 ∧ Hid (Below w.heap.size w wr)) (fun _ _ => 0)
      case atStart => exact ⟨rfl, Lib.hid HM3.out.2⟩
      case round =>
        obtain ⟨rfl, HB⟩ := hrel
        by_cases h0 : 0 < zs.length
        · have b0 : decide ((0 : Int) < zs.length) = true := by rw [decide_eq_true_eq]; omega
          clear h0
          go_wp2
          all_goals (go_ret; exact ⟨rfl, HB.out⟩)
        · have b0 : decide ((0 : Int) < zs.length) = false := by rw [decide_eq_false_iff_not]; omega
          clear h0
          go_wp2
          all_goals (go_ret; exact ⟨rfl, HB.out⟩)
    | true =>
      have HSm := Lib.hid (vOk_kept hok)
      have HIx := Lib.hid fun k hk => idx_self (k := k) hok hk
      clear hok
      go_wp2
      go_loopw [7] (fun i wr => ∃ k : Nat, k ≤ zs.length ∧ i = .int .i64 k ∧ Hid (Below w3.heap.size w3 wr)) (fun i _ => zs.length - (intOf i).toNat)
      case atStart => exact ⟨0, Nat.zero_le _, rfl, Lib.hid (Below.refl _ _)⟩
      case round =>
        obtain ⟨k, hk, rfl, HB⟩ := hrel
        have HMr := Lib.hid (HM3.out.on HB.out)
        by_cases hlt : k < zs.length
        · have hsz := HB.out.size
          have HVr := Lib.hid ((HV3.out.keep (below_keeps HB.out fun b hb => hb.2)).mono fun b hb => (⟨hb.1, Nat.lt_of_lt_of_le hb.2 hsz⟩ : Fresh w wr b))
          obtain ⟨b, off, cap', A, cA, B, cB, hv, hFb, _, hcm2, hc0, hc1, hc2, hc3, hc4, -, hV⟩ := HVr.out.kept_at hlt
          obtain ⟨rfl, rfl⟩ : A2 = some ⟨b, off, none⟩ ∧ cap2 = cap' := by simpa using hv
          have HC := Lib.hid (fun (W : World) (hbW : Below wr.heap.size wr W) => implVaultsGet_any (ks := ks) 9 (Fresh w wr) (.slice (some ⟨ad, 0, none⟩) ks.length cap) (.slice (some ⟨b, off, none⟩) zs.length cap2) zs zs[k].o zs[k].v.ty W (HMr.out.1.keep (w' := W) fun x hx => hbW.block x hx.2) (HVr.out.keep (w' := W) fun x hx => hbW.block x hx.2) (fun x hx => Nat.lt_of_lt_of_le hx.2 hbW.size) HSm.out)
          simp only [HIx.out k hlt] at HC
          have HVk := Lib.hid hV
          have i0 : (0 : Int) ≤ k := by omega
          have i1 : (k : Int) < zs.length := by omega
          have hFb2 := hFb.2
          generalize zs[k] = z at *
          unfold maxLen at hcm2
          have HSc := Lib.hid (show ∀ W : World, Below wr.heap.size wr W → W.cell? ⟨b, off + k * 5, none⟩ = some (.int .i64 z.o) ∧ W.cell? ⟨b, off + k * 5 + 1, none⟩ = some (.string z.v.ty) from fun W hbW => ⟨(hbW.cell (p := ⟨b, off + k * 5, none⟩) hFb2).trans hc0, (hbW.cell (p := ⟨b, off + k * 5 + 1, none⟩) hFb2).trans hc1⟩)
          have HBd := Lib.hid (show Below wr.heap.size wr wr.drew from below_drewN (Below.refl _ wr) 1)
          have HBa := Lib.hid (show Below wr.heap.size wr (wr.alloc (.cells #[.string ⟨#[]⟩, .int .i64 0, .slice none 0 0, .slice none 0 0] 57)).drew from ((Below.refl _ wr).alloc (Nat.le_refl _) _).drew)
          have HAa := Lib.hid (show Blk (wr.alloc (.cells #[.string ⟨#[]⟩, .int .i64 0, .slice none 0 0, .slice none 0 0] 57)).drew wr.heap.size 57 #[.string ⟨#[]⟩, .int .i64 0, .slice none 0 0, .slice none 0 0] from Blk.new wr _ _)
          have HVk2 := Lib.hid (show ∀ W : World, Below wr.heap.size wr W → VRd (Cod.val 9) (fun b => w.heap.size ≤ b ∧ b < wr.heap.size) W (.slice A z.v.parts.length cA) (.slice B z.v.path.length cB) z.v from fun W hbW => HVk.out.keep (w' := W) fun x hx => hbW.block x hx.2)
          have HSd := Lib.hid (show ∀ W : World, Below wr.heap.size wr W → W.cell? ⟨b, off + k * 5 + 2, none⟩ = some (.int .i64 z.v.n) ∧ W.cell? ⟨b, off + k * 5 + 3, none⟩ = some (.slice A z.v.parts.length cA) ∧ W.cell? ⟨b, off + k * 5 + 4, none⟩ = some (.slice B z.v.path.length cB) from fun W hbW => ⟨(hbW.cell (p := ⟨b, off + k * 5 + 2, none⟩) hFb2).trans hc2, (hbW.cell (p := ⟨b, off + k * 5 + 3, none⟩) hFb2).trans hc3, (hbW.cell (p := ⟨b, off + k * 5 + 4, none⟩) hFb2).trans hc4⟩)
          have hww : w.heap.size ≤ wr.heap.size := HMr.out.2.size
          clear hv hV hFb hc0 hc1 hc2 hc3 hc4 HVk HVr
          go_wp2_with fail
          go_cut [8, 9] from 37 to 52 (fun s8 s9 wx => ∃ (gb : Nat) (A' B' : Option Addr) (cA' cB' : Nat), s8 = .pointer (some ⟨gb, 0, none⟩) ∧ s9 = .bool true ∧ Hid (Blk wx gb 57 #[.string z.v.ty, .int .i64 z.v.n, .slice A' z.v.parts.length cA', .slice B' z.v.path.length cB']) ∧ Hid (VRd (Cod.val 9) (fun b => w.heap.size ≤ b ∧ b < wx.heap.size) wx (.slice A' z.v.parts.length cA') (.slice B' z.v.path.length cB') z.v) ∧ Hid (Below wr.heap.size wr wx))
          case first =>
            go_region_held3 (fun w' => w'.cell? ⟨b, off + k * 5, none⟩ = some (.int .i64 z.o) ∧ w'.cell? ⟨b, off + k * 5 + 1, none⟩ = some (.string z.v.ty)) (exact HSc.out _ (by first | with_reducible exact HBd.out | with_reducible exact HBa.out | with_reducible exact HBk.out | with_reducible exact HBk.out.alloc HBk.out.size _ | (with_reducible exact set4_below HBk.out (Nat.le_refl _) _ _ _ _))) (first
              | (go_at_call 26; (with_reducible refine (HC.out _ HBd.out).mono ?_); rintro e w5 ⟨A', cA', B', cB', rfl, hO, hb5⟩; go_must (
                  have HBk := Lib.hid (HBd.out.trans (hb5.mono HBd.out.size));
                  have HO5 := Lib.hid (show VRd (Cod.val 9) (fun x => wr.heap.size ≤ x ∧ x < w5.heap.size) w5 (.slice A' z.v.parts.length cA') (.slice B' z.v.path.length cB') z.v by have := hO.rd; rw [OCod.val_cod] at this; exact this);
                  clear hO hb5))
              | (go_at_call 26; (with_reducible refine (HC.out _ HBa.out).mono ?_); rintro e w5 ⟨A', cA', B', cB', rfl, hO, hb5⟩; go_must (
                  have HBk := Lib.hid (HBa.out.trans (hb5.mono HBa.out.size));
                  have HO5 := Lib.hid (show VRd (Cod.val 9) (fun x => wr.heap.size < x ∧ x < w5.heap.size) w5 (.slice A' z.v.parts.length cA') (.slice B' z.v.path.length cB') z.v by have := hO.rd; rw [OCod.val_cod] at this; exact this.mono fun x hx => ⟨Nat.lt_of_succ_le (by have h1 := hx.1; simpa [World.drew] using h1), hx.2⟩);
                  have HAb := Lib.hid (HAa.out.below hb5 HAa.out.lt);
                  obtain ⟨x0, x1, x2, x3⟩ := HAb.out.c2;
                  obtain ⟨f0, f1, f2, f3⟩ := HAb.out.f4;
                  clear hO hb5)))
            all_goals
              go_wp2
              go_meet
              first
                | exact ⟨w5.heap.size, A', B', cA', cB', rfl, rfl, Lib.hid (Blk.new w5 _ _), Lib.hid ((HO5.out.keep (w' := _) fun x hx => Below.heap_alloc _ _ _ hx.2).mono fun x hx => ⟨Nat.le_trans hww hx.1, by have := hx.2; simp; omega⟩), Lib.hid (HBk.out.alloc HBk.out.size _)⟩
                | exact ⟨wr.heap.size, A', B', cA', cB', rfl, rfl, Lib.hid (set4_blk HAb.out _ _ _ _), Lib.hid ((HO5.out.keep (w' := _) fun x hx => set4_heap (g := wr.heap.size) _ _ _ _ (by have h1 := hx.1; omega)).mono fun x hx => ⟨by have h1 := hx.1; omega, by rw [set4_size]; exact hx.2⟩), Lib.hid (set4_below HBk.out (Nat.le_refl _) _ _ _ _)⟩
          case rest =>
            obtain ⟨gb, A', B', cA', cB', rfl, rfl, HBl, HVl, HBw⟩ := hcut
            have HVz := Lib.hid ((HVk2.out wc HBw.out).mono fun x hx => (⟨hx.1, Nat.lt_of_lt_of_le hx.2 HBw.out.size⟩ : w.heap.size ≤ x ∧ x < wc.heap.size))
            obtain ⟨-, d1⟩ := HSc.out wc HBw.out
            obtain ⟨d2, d3, d4⟩ := HSd.out wc HBw.out
            obtain ⟨y0, y1, y2, y3⟩ := HBl.out.c2
            have HH := Lib.hid (hlValue_any 9 (fun x => w.heap.size ≤ x ∧ x < wc.heap.size) _ _ _ _ z.v wc.drew HVl.out.drew HVz.out.drew (fun x hx => hx.2))
            clear HSc HSd HVk2 HBd HBa HAa HC HVl HVz
            go_wp2_with fail
            go_still_tail 9, (by kernel_rfl)
            change wpList _ _ _ _ _ wc.drew
            go_wp2_with fail
            refine HH.out.mono ?_
            rintro e w6 ⟨rfl, hb6⟩
            have HBn := Lib.hid (HB.out.trans ((HBw.out.trans ((show Below wc.heap.size wc w6 from (show Below wc.heap.size wc wc.drew from below_drewN (Below.refl _ wc) 1).trans hb6).mono HBw.out.size)).mono hsz))
            clear hb6 d1 d2 d3 d4 y0 y1 y2 y3
            go_wp2
            go_roundw
            case rel => exact ⟨k + 1, by omega, by go_num, HBn⟩
            case measure => simp [intOf]; omega
        · go_wp2
          go_ret
          exact ⟨rfl, HMr.out.2⟩

set_option maxRecDepth 100000 in
theorem liftFnVaultsOk (os : Os) (started : os.Started) (H : Type) (enc : TypeId × Value → H) :
    ReturnsInHanded {} Try.checked os 7 .any (Rows.fnVaultsOkSpec.pre6 enc Try.prog Try.f7 Rows.fnVaultsOkRow.domain false) (Rows.fnVaultsOkSpec.post enc Try.prog Try.f7 false true false false) := by
  refine returnsInHanded_of_change (C := Try.checked) own_ started (by kernel_rfl) Try.func7
    (ChangeSpec.witness6 (enc := enc) (C := Try.checked) false ⟨#[], #[.slice none 0 0], []⟩ 8 (by kernel_rfl) (by kernel_rfl) (by kernel_rfl) (by kernel_rfl)) ?_
  intro W base args ds gs before hval0 hW _ _
  have hval : ∀ (j : Nat) t v, Try.f7.params[j]? = some t → args[j]? = some v → Value.okWide Try.prog W .any base t v := hval0
  have hW' := hW
  obtain ⟨p, q, hA0, hV, rfl, _, _⟩ := hW
  have hA : DataW.TrodAll enc Try.prog W 0 (fun _ => true) true Try.f7.params.toList args.toList ds p := hA0
  rw [Try.params7] at hA hval
  obtain ⟨v0, d0, rfl, rfl, h0⟩ := trodAll_one hA
  obtain ⟨rfl, rfl⟩ := trodVars_none hV
  obtain ⟨xs, hxs⟩ := open_code (hval 0 22 v0 rfl rfl) h0
  clear hA0 hval0
  simp only [List.append_nil] at hW'
  have hlt : ∀ x ∈ p, x.block < W.heap.size := fun x hx => by simpa using hW'.lt x (by simp [hx])
  refine (fnVaultsOk (Old W) v0 xs W hxs (fun b hb => hb)).mono fun e W' ⟨he, hn⟩ => ?_
  subst he
  refine ⟨_, rfl, _, _, _, [], p, [], hW', ?_, ?_, rfl, hn.frame _, fun h => by cases h⟩
  · exact trodAll_mk1 (shut_bool Try.underlying4 true)
  · exact trodAll_mk1 (Below.trod laidOut_ (by kernel_rfl) (of_decide_eq_true (by kernel_rfl)) h0 hn hlt)

theorem FnVaultsOk_holds : Rows.FnVaultsOkSaid :=
  OpenClaim.holds_of_wide 7 Try.f7 rfl rfl rfl rfl rfl rfl rfl ⟨rfl, rfl, rfl, rfl, rfl⟩ rfl rfl rfl rfl rfl (by kernel_rfl) Try.func7 (by kernel_rfl)
    (of_decide_eq_true (by kernel_rfl)) (by unfold Func.isWrapper; first | (rw [if_pos (by decide +kernel)]; kernel_rfl) | (rw [if_neg (by decide +kernel)]; exact ⟨rfl, rfl⟩))
    (fun os started H enc _ => liftFnVaultsOk os started H enc)
end Go.Proofs.Ytmomdflfjcboiaa
