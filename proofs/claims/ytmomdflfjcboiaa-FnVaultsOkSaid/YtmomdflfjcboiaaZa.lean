/- What is drawn: vaults of kinds. What is drawn for the law of VaultsOk: kinds, and a list of vaults that is seldom out of order, and seldom spoilt. -/
import Derived.Test.YtmomdflfjcboiaaDrawv
import Derived.Test.YtmomdflfjcboiaaWf
import Derived.Test.YtmomdflfjcboiaaFa
namespace Go.Proofs.Ytmomdflfjcboiaa
open Go.RowKit

/-- What is known of a drawn record of a vault. -/
def GoodDr (x : KepR) : Prop := (0 ≤ x.o ∧ x.o ≤ 3) ∧ x.v.path = [] ∧ x.v.parts.length ≤ 4 ∧ sizeOf' (fun _ => 1) (sizeV 9) x.v ≤ (vmax 9 : Nat) ∧ Smol (SmolD 9) x.v

/-- While vaults are drawn. -/
structure DrVs (g p N : Nat) (w : World) (v : Value) (xs : List KepR) (wr : World) : Prop where
  step : Step g p N w wr
  own : OwnRow (Cod.kept (Cod.val 9)) 61 w.heap.size w.heap.size wr v xs
  good : ∀ x ∈ xs, GoodDr x
/-- Drawn vaults. -/
def VsD (g p N : Nat) (w : World) (e : Ending) (w' : World) : Prop := ∃ (A : Option Addr) (cap : Nat) (xs : List KepR), e = .returned (.slice A xs.length cap) ∧ xs.length ≤ 36 ∧ DrVs g p N w (.slice A xs.length cap) xs w'

theorem DrVs.more {g p N M : Nat} {w wr : World} {v : Value} {xs : List KepR} (h : DrVs g p N w v xs wr) (hm : N ≤ M) : DrVs g p M w v xs wr := ⟨h.step.more hm, h.own, h.good⟩
theorem DrVs.go {g p N M : Nat} {w wr w' : World} {v : Value} {xs : List KepR} (h : DrVs g p N w v xs wr) (hg : g < w.heap.size) (hs : Step g p M w w') (hb : wr.grownBy w' (some g)) : DrVs g p M w v xs w' := ⟨hs, h.own.grow (Nat.le_refl _) hb hg, h.good⟩
theorem DrVs.far {g p N : Nat} {w wr w' : World} {v : Value} {xs : List KepR} (h : DrVs g p N w v xs wr) (hb : Below wr.heap.size wr w') : DrVs g p N w v xs w' := ⟨h.step.below hb, h.own.below (Nat.le_refl _) hb, h.good⟩
theorem good_put {o : Int} {v : Val} : ∀ {xs : List KepR}, (∀ x ∈ xs, GoodDr x) → GoodDr ⟨o, v⟩ → ∀ x ∈ putK o v xs, GoodDr x := by
  intro xs h hv
  induction xs with
  | nil => intro x hx; unfold putK at hx; simp at hx; subst hx; exact hv
  | cons y r ih =>
    intro x hx
    unfold putK at hx
    split at hx
    · rcases List.mem_cons.1 hx with rfl | hx
      · exact hv
      · exact h x hx
    · rcases List.mem_cons.1 hx with rfl | hx
      · exact h _ List.mem_cons_self
      · exact ih (fun z hz => h z (List.mem_cons_of_mem _ hz)) x hx
theorem n_up (N c : Nat) : N * c ≤ (N + 1) * c := Nat.mul_le_mul_right c (Nat.le_succ N)
theorem n_up1 (N c : Nat) (h : 1 ≤ c) : N * c + 1 ≤ (N + 1) * c := by rw [Nat.add_mul, Nat.one_mul]; omega
theorem nine_max : vmax 9 = 349525 := by decide +kernel
theorem able_small {ks : Ks} (h : kindsOk ks = true) {m k : Nat} (hh : hasB ks m k = true) : 0 ≤ (recAt ks m k).able ∧ (recAt ks m k).able ≤ 15 := by
  have := ok_rec h hh
  unfold recB at this
  simp only [Bool.and_eq_true, decide_eq_true_eq] at this
  exact ⟨this.1.1.1, this.1.1.2⟩

set_option maxRecDepth 100000 in
set_option maxHeartbeats 8000000 in
theorem vaults_any {ks : Ks} (hl : Lens ks) (he : Early ks) (hok : kindsOk ks = true) (F : Nat → Prop) (g p : Nat) (kv : Value) (w : World) (h : Rdr g p w) (hp : p ≤ 20000000) (hv : Cod.recs.Sl F w kv ks) (hF : ∀ b, F b → b < w.heap.size ∧ b ≠ g) :
    Calls Try.prog 45 #[.pointer (some ⟨g, 0, none⟩), kv] w (VsD g p (36 * 349526) w) := by
  have hgl := h.lt
  have HV := Lib.hid hv
  have HF := Lib.hid hF
  have HL := Lib.hid hl
  have HE := Lib.hid he
  have HK := Lib.hid hok
  have HD0 := Lib.hid (show DrVs g p 0 w (.slice (some ⟨w.heap.size, 0, none⟩) 0 0) [] (w.alloc (.cells #[] 61)) from ⟨(Step.start (N := 0) h).below ((Below.refl _ _).alloc (Nat.le_refl _) _), OwnRow.lit w (Nat.le_refl _), fun _ h => by cases h⟩)
  have hl3 : ks.length ≤ 3 := hl.1
  obtain ⟨Ak, ck, rfl, hkc, hkm, _⟩ := hv
  unfold maxLen at hkm
  clear h hF hl he hok
  go_enter Try.func45, Try.ntmps45
  go_wp2
  go_loopw [5, 6] (fun s i wr => ∃ (m N : Nat) (xs : List KepR), m ≤ ks.length ∧ i = .int .i64 m ∧ N ≤ m * 12 ∧ xs.length ≤ N ∧ Hid (DrVs g p (N * 349526) w s xs wr)) (fun _ i _ => ks.length - (intOf i).toNat)
  case atStart => exact ⟨0, 0, [], Nat.zero_le _, rfl, Nat.le_refl _, Nat.le_refl _, by rw [Nat.zero_mul]; exact HD0⟩
  case round =>
    clear HD0
    obtain ⟨m, N, xs, hm, rfl, hN, hxN, HDr⟩ := hrel
    obtain ⟨As, cs, rfl⟩ := HDr.out.own.form5
    by_cases hlt : m < ks.length
    · obtain ⟨bk, offk, ck', uk, hve, hFk, _, _, hk0, huk⟩ := HV.out.sl_at hlt
      obtain ⟨rfl, rfl⟩ : Ak = some ⟨bk, offk, none⟩ ∧ ck = ck' := by simpa using hve
      obtain ⟨Ar, cr, rfl, hrc, hrm, _⟩ := id huk
      unfold maxLen at hrm
      have hr3 : ks[m].length ≤ 3 := HL.out.2 _ (List.getElem_mem hlt)
      have hk0w := Lib.hid hk0
      have HUk := Lib.hid huk
      have z1 : wr.cell? ⟨bk, offk + m, none⟩ = some (.slice Ar ks[m].length cr) := (World.cell?_of_block (a := ⟨bk, offk + m, none⟩) (HDr.out.step.keeps HF.out bk hFk)).trans hk0
      have m0 : (0 : Int) ≤ m := by omega
      have m1 : (m : Int) < ks.length := by omega
      clear hve hk0 huk
      go_wp2
      go_loopw [5, 7] (fun s i wr => ∃ (j N : Nat) (xs : List KepR), j ≤ ks[m].length ∧ i = .int .i64 j ∧ N ≤ m * 12 + j * 4 ∧ xs.length ≤ N ∧ Hid (DrVs g p (N * 349526) w s xs wr)) (fun _ i _ => ks[m].length - (intOf i).toNat)
      case atStart => exact ⟨0, N, xs, Nat.zero_le _, rfl, by omega, hxN, HDr⟩
      case round =>
        clear HDr hN hxN
        obtain ⟨j, N, xs, hj, rfl, hN, hxN, HDr⟩ := hrel
        obtain ⟨As, cs, rfl⟩ := HDr.out.own.form5
        have z1 : wr.cell? ⟨bk, offk + m, none⟩ = some (.slice Ar ks[m].length cr) := (World.cell?_of_block (a := ⟨bk, offk + m, none⟩) (HDr.out.step.keeps HF.out bk hFk)).trans hk0w.out
        by_cases hltj : j < ks[m].length
        · obtain ⟨rb, ro, rc, ur, hve, hFr, _, _, hr0, hr1, _, hur⟩ := HUk.out.rec_at hltj
          obtain ⟨rfl, rfl⟩ : Ar = some ⟨rb, ro, none⟩ ∧ cr = rc := by simpa using hve
          have hh : hasB ks m j = true := by unfold hasB; rw [List.getElem?_eq_getElem hlt]; exact decide_eq_true hltj
          have hkt : kindOf ((⟨#[83]⟩ : ByteArray) ++ digB m ++ digB j) = some (m, j) := kindOf_dig ⟨m, by omega⟩ ⟨j, by omega⟩
          have hts : ((⟨#[83]⟩ : ByteArray) ++ digB m ++ digB j).size = 3 := by rw [ByteArray.size_append, ByteArray.size_append, size_digB, size_digB]; rfl
          have hab := able_small HK.out hh
          have hat := (has_at hh).2.2
          have hra : (ks[m][j]).able ≤ 15 := by rw [← hat]; exact hab.2
          have hrk := rank3_le HL.out ((⟨#[83]⟩ : ByteArray) ++ digB m ++ digB j)
          have HKn : Hid (Known ks ((⟨#[83]⟩ : ByteArray) ++ digB m ++ digB j)) := Lib.hid fun m' k' h => by rw [hkt] at h; cases h; exact hh
          have hable : 0 ≤ ableT ks ((⟨#[83]⟩ : ByteArray) ++ digB m ++ digB j) ∧ ableT ks ((⟨#[83]⟩ : ByteArray) ++ digB m ++ digB j) ≤ 1000000 := by
            unfold ableT
            split
            · omega
            · split
              · omega
              · rw [hkt]
                simp only
                omega
          have HT := Lib.hid hts
          have HRk := Lib.hid hrk
          have HAb := Lib.hid hable
          have Hr0 := Lib.hid hr0
          have j0 : (0 : Int) ≤ j := by omega
          have j1 : (j : Int) < ks[m].length := by omega
          have H1 := Lib.hid (dec_any m wr (by omega))
          clear hve hr0 hr1 hur hh hkt hts hab hat hrk hable
          go_wp2_with fail
          with_reducible refine H1.out.mono ?_
          rintro e w1 ⟨rfl, hb1⟩
          have HD1 := Lib.hid (HDr.out.far hb1)
          have H2 := Lib.hid (dec_any j w1 (by omega))
          clear hb1 H1 HDr
          go_wp2_with fail
          with_reducible refine H2.out.mono ?_
          rintro e w2 ⟨rfl, hb2⟩
          have HD2 := Lib.hid (HD1.out.far hb2)
          clear hb2 H2 HD1
          go_wp2
          go_loopw [5, 9] (fun s i wr => ∃ (o N : Nat) (xs : List KepR), o ≤ 4 ∧ i = .int .i64 o ∧ N ≤ m * 12 + j * 4 + o ∧ xs.length ≤ N ∧ Hid (DrVs g p (N * 349526) w s xs wr)) (fun _ i _ => 4 - (intOf i).toNat)
          case atStart => exact ⟨0, N, xs, Nat.zero_le _, rfl, by omega, hxN, HD2⟩
          case round =>
            clear HD2 hN hxN
            obtain ⟨o, N, xs, ho, rfl, hN, hxN, HDr⟩ := hrel
            obtain ⟨As, cs, rfl⟩ := HDr.out.own.form5
            by_cases hlto : o < 4
            · have o1 : (o : Int) < 4 := by omega
              have HA := Lib.hid (l1Able_any F _ ks ((⟨#[83]⟩ : ByteArray) ++ digB m ++ digB j) wr (HV.out.keep (HDr.out.step.keeps HF.out)) (by rw [HT.out]; unfold maxLen; omega) HKn.out)
              have hNm : N * 349526 ≤ 35 * 349526 := Nat.mul_le_mul_right _ (by omega)
              go_wp2_with fail
              with_reducible refine HA.out.mono ?_
              rintro e w3 ⟨rfl, a, hw3⟩
              have HD3 := Lib.hid (show DrVs g p (N * 349526) w (.slice As xs.length cs) xs w3 by rw [hw3]; exact HDr.out.far (below_drewN (Below.refl _ _) a))
              have HC := Lib.hid (l1Can_any (ableT ks ((⟨#[83]⟩ : ByteArray) ++ digB m ++ digB j)) 8 w3 HAb.out.1 (by omega) HAb.out.2)
              clear hw3 HA HDr
              go_wp2_with fail
              with_reducible refine HC.out.mono ?_
              rintro e w4 ⟨rfl, rfl⟩
              have HD4 := HD3
              cases hcan : canB (ableT ks ((⟨#[83]⟩ : ByteArray) ++ digB m ++ digB j)) 8 with
              | false =>
                have HN := Lib.hid (show DrVs g p ((N + 1) * 349526) w (.slice As xs.length cs) xs w3 from HD4.out.more (n_up N 349526))
                go_wp2
                go_roundw
                case rel => exact ⟨o + 1, N + 1, xs, by omega, by go_num, by omega, by omega, HN⟩
                case measure => simp [intOf]; omega
              | true =>
                have HP := Lib.hid (pick_at (n := 2) HD4.out.step (by omega) (by omega))
                go_wp2_with fail
                with_reducible refine HP.out.mono ?_
                rintro e w5 ⟨k, rfl, hk, hS5, hg5⟩
                have HD5 := Lib.hid (HD4.out.go hgl hS5 hg5)
                clear hS5 hg5 HP HD4 HD3
                have z1' : w5.cell? ⟨bk, offk + m, none⟩ = some (.slice (some ⟨rb, ro, none⟩) ks[m].length cr) := (World.cell?_of_block (a := ⟨bk, offk + m, none⟩) (HD5.out.step.keeps HF.out bk hFk)).trans hk0w.out
                have z2' : w5.cell? ⟨rb, ro + j * 2, none⟩ = some (.int .i64 (ks[m][j]).able) := (World.cell?_of_block (a := ⟨rb, ro + j * 2, none⟩) (HD5.out.step.keeps HF.out rb hFr)).trans Hr0.out
                by_cases hk0 : k = 0
                · have b0 : ((k : Int) == 0) = true := by rw [beq_iff_eq]; omega
                  have b1 : decide ((ks[m][j]).able ≤ 15) = true := decide_eq_true hra
                  obtain ⟨q, hq, hrd⟩ := HD5.out.step.rdr
                  have HVA := Lib.hid (value_any HL.out HE.out F g _ 9 ((⟨#[83]⟩ : ByteArray) ++ digB m ++ digB j) w5 q HRk.out (Nat.le_refl _) hrd (by rw [nine_max]; omega) (by rw [HT.out]; omega) (HV.out.keep (HD5.out.step.keeps HF.out)) (HD5.out.step.ups HF.out))
                  clear hrd
                  go_wp2_with fail
                  with_reducible refine HVA.out.mono ?_
                  rintro e w6 ⟨v1, A1, c1', rfl, hp1, hl1, hV1, hz1, hS1, hm1⟩
                  have HD6 := Lib.hid (show DrVs g p ((N + 1) * 349526) w (.slice As xs.length cs) xs w6 from HD5.out.go hgl ⟨by obtain ⟨q', hq', hr'⟩ := hS1.rdr; exact ⟨q', by rw [nine_max] at hq'; omega, hr'⟩, grown_trans HD5.out.step.grown hS1.grown⟩ hS1.grown)
                  have hM : w.heap.size ≤ w6.heap.size := HD6.out.step.size
                  have HPt := Lib.hid (l9Put_any 9 w.heap.size (Fresh w5 w6) _ xs o A1 none _ 0 c1' 0 v1 w6 HD6.out.own hM (by omega) (by unfold I64; omega) hV1 (fun b hb => hb.2) hm1)
                  have HGd := Lib.hid (show GoodDr ⟨o, v1⟩ from ⟨⟨by show (0 : Int) ≤ o; omega, by show (o : Int) ≤ 3; omega⟩, hp1, hl1, hz1, hm1⟩)
                  clear hp1 hl1 hV1 hz1 hS1 hm1 HD5 HVA
                  go_wp2_with fail
                  with_reducible refine HPt.out.mono ?_
                  rintro e w7 ⟨g7, c7, rfl, hO7, hb7⟩
                  have HD7 := Lib.hid (show DrVs g p ((N + 1) * 349526) w (.slice (some ⟨g7, 0, none⟩) (putK o v1 xs).length c7) (putK o v1 xs) w7 from ⟨HD6.out.step.below hb7, hO7.down hM (Nat.le_refl _), good_put HD6.out.good HGd.out⟩)
                  have hpl := putK_length o v1 xs
                  have Hpl := Lib.hid hpl
                  clear hpl hO7 hb7 HD6 HPt HGd
                  go_wp2
                  go_roundw
                  case rel => exact ⟨o + 1, N + 1, putK o v1 xs, by omega, by go_num, by omega, by rw [Hpl.out]; omega, HD7⟩
                  case measure => simp [intOf]; omega
                · have b0 : ((k : Int) == 0) = false := by rw [beq_eq_false_iff_ne]; omega
                  have HN := Lib.hid (show DrVs g p ((N + 1) * 349526) w (.slice As xs.length cs) xs w5 from HD5.out.more (n_up1 N 349526 (by decide)))
                  go_wp2
                  go_roundw
                  case rel => exact ⟨o + 1, N + 1, xs, by omega, by go_num, by omega, by omega, HN⟩
                  case measure => simp [intOf]; omega
            · have i0 : ¬ (o : Int) < 4 := by omega
              go_wp2
              go_roundw
              case rel => exact ⟨j + 1, N, xs, by omega, by go_num, by omega, hxN, HDr⟩
              case measure => simp [intOf]; omega
        · have i0 : ¬ (j : Int) < ks[m].length := by omega
          go_wp2
          go_roundw
          case rel => exact ⟨m + 1, N, xs, by omega, by go_num, by omega, hxN, HDr⟩
          case measure => simp [intOf]; omega
    · have i0 : ¬ (m : Int) < ks.length := by omega
      go_wp2
      go_ret
      have hNm : N * 349526 ≤ 36 * 349526 := Nat.mul_le_mul_right _ (by omega)
      exact ⟨_, _, xs, rfl, by omega, HDr.out.more hNm⟩
end Go.Proofs.Ytmomdflfjcboiaa

namespace Go.Proofs.Ytmomdflfjcboiaa
open Go.RowKit

/-- A row of vaults whose elements' memory lies elsewhere. -/
structure KRow (lo : Nat) (W : World) (gb cap : Nat) (xs : List KepR) : Prop where
  base : lo ≤ gb
  len : xs.length ≤ cap
  cap_ : cap ≤ maxLen
  row : ∃ cur, Blk W gb 61 cur ∧ cur.size = cap * 5
  at_ : ∀ (i : Nat) (x : KepR), xs[i]? = some x → ∃ A cA B cB, (W.cell? ⟨gb, i * 5, none⟩ = some (.int .i64 x.o) ∧ W.cell? ⟨gb, i * 5 + 1, none⟩ = some (.string x.v.ty) ∧ W.cell? ⟨gb, i * 5 + 2, none⟩ = some (.int .i64 x.v.n) ∧ W.cell? ⟨gb, i * 5 + 3, none⟩ = some (.slice A x.v.parts.length cA) ∧ W.cell? ⟨gb, i * 5 + 4, none⟩ = some (.slice B x.v.path.length cB)) ∧ I64 x.o ∧
    VRd (Cod.val 9) (fun b => lo ≤ b ∧ b < W.heap.size ∧ b ≠ gb) W (.slice A x.v.parts.length cA) (.slice B x.v.path.length cB) x.v

theorem KRow.of_own {base cb gb n cap : Nat} {W : World} {xs : List KepR} (h : OwnRow (Cod.kept (Cod.val 9)) 61 base cb W (.slice (some ⟨gb, 0, none⟩) n cap) xs) (hcb : cb ≤ base) : KRow cb W gb cap xs := by
  obtain ⟨us, h0, -, hx⟩ := h
  rcases h0.2 with ⟨hv, _⟩ | ⟨g, cap', cur, hv, hg, hh, hn, hc, hcs, ht⟩
  · cases hv
  simp only [Value.slice.injEq, Option.some.injEq, Addr.mk.injEq, true_and, and_true] at hv
  obtain ⟨rfl, rfl, rfl⟩ := hv
  have hB : Blk W gb 61 cur := hh
  refine ⟨by omega, hn, hc, ⟨cur, hB, hcs⟩, fun i x hi => ?_⟩
  obtain ⟨cs, hcs', a, p, rfl, hio, hV⟩ := hx i x hi
  obtain ⟨A, cA, rfl, _⟩ := id hV.parts
  obtain ⟨B, cB, rfl, _⟩ := id hV.path
  have hil := (List.getElem?_eq_some_iff.1 hi).1
  have hcell : ∀ (j : Nat) (u : Value), us[i * 5 + j]? = some u → W.cell? ⟨gb, i * 5 + j, none⟩ = some u := fun j u hu => by
    rw [hB.cell, ← Array.getElem?_toList]
    rw [← ht, List.getElem?_take] at hu
    split at hu
    · exact hu
    · cases hu
  refine ⟨A, cA, B, cB, ⟨hcell 0 _ (hcs' 0 _ rfl), hcell 1 _ (hcs' 1 _ rfl), hcell 2 _ (hcs' 2 _ rfl), hcell 3 _ (hcs' 3 _ rfl), hcell 4 _ (hcs' 4 _ rfl)⟩, hio, hV.mono fun b hb => ⟨hb.1, hb.2.1, fun e => hb.2.2 (by rw [e]; rfl)⟩⟩

theorem KRow.sl {lo gb cap : Nat} {W : World} {xs : List KepR} (h : KRow lo W gb cap xs) : (Cod.kept (Cod.val 9)).Sl (fun b => lo ≤ b ∧ b < W.heap.size) W (.slice (some ⟨gb, 0, none⟩) xs.length cap) xs := by
  obtain ⟨cur, hB, _⟩ := h.row
  refine ⟨_, cap, rfl, h.len, h.cap_, fun _ => ⟨gb, 0, rfl, ⟨h.base, hB.lt⟩, fun i x hi => ?_⟩⟩
  obtain ⟨A, cA, B, cB, ⟨h0, h1, h2, h3, h4⟩, hio, hV⟩ := h.at_ i x hi
  refine ⟨_, fun j u hu => ?_, _, _, rfl, hio, hV.mono fun b hb => ⟨hb.1, hb.2.1⟩⟩
  show W.cell? ⟨gb, 0 + i * 5 + j, none⟩ = some u
  rw [Nat.zero_add]
  match j, hu with
  | 0, hu => cases hu; exact h0
  | 1, hu => cases hu; exact h1
  | 2, hu => cases hu; exact h2
  | 3, hu => cases hu; exact h3
  | 4, hu => cases hu; exact h4

theorem KRow.grow {lo gb cap g : Nat} {W W' : World} {xs : List KepR} (h : KRow lo W gb cap xs) (hg : W.grownBy W' (some g)) (hlt : g < lo) : KRow lo W' gb cap xs := by
  obtain ⟨cur, hB, hc⟩ := h.row
  have hb : W'.heap[gb]? = W.heap[gb]? := hg.block gb hB.lt (by have := h.base; simp; omega)
  refine ⟨h.base, h.len, h.cap_, ⟨cur, hb.trans hB, hc⟩, fun i x hi => ?_⟩
  obtain ⟨A, cA, B, cB, ⟨h0, h1, h2, h3, h4⟩, hio, hV⟩ := h.at_ i x hi
  have hc : ∀ j, W'.cell? ⟨gb, j, none⟩ = W.cell? ⟨gb, j, none⟩ := fun j => World.cell?_of_block (a := ⟨gb, j, none⟩) hb
  exact ⟨A, cA, B, cB, ⟨(hc _).trans h0, (hc _).trans h1, (hc _).trans h2, (hc _).trans h3, (hc _).trans h4⟩, hio, (hV.keep fun b hb => hg.block b hb.2.1 (by simp; omega)).mono fun b hb => ⟨hb.1, Nat.lt_of_lt_of_le hb.2.1 hg.size, hb.2.2⟩⟩

theorem KRow.drew {lo gb cap : Nat} {W : World} {xs : List KepR} (h : KRow lo W gb cap xs) : KRow lo W.drew gb cap xs := by
  obtain ⟨cur, hB, hc⟩ := h.row
  refine ⟨h.base, h.len, h.cap_, ⟨cur, hB, hc⟩, fun i x hi => ?_⟩
  obtain ⟨A, cA, B, cB, h1, hio, hV⟩ := h.at_ i x hi
  exact ⟨A, cA, B, cB, h1, hio, (VRd.keep (w := W) (w' := W.drew) (fun b hb => rfl) hV).mono fun b hb => ⟨hb.1, hb.2.1, hb.2.2⟩⟩

/-- The row's own cells turn: the elements are said anew. -/
theorem KRow.turn {lo gb cap : Nat} {W W' : World} {xs ys : List KepR} (h : KRow lo W gb cap xs) (hs : W'.heap.size = W.heap.size) (hk : ∀ b, b ≠ gb → W'.heap[b]? = W.heap[b]?) (hr : ∃ cur, Blk W' gb 61 cur ∧ cur.size = cap * 5) (hl : ys.length = xs.length)
    (ha : ∀ (i : Nat) (y : KepR), ys[i]? = some y → ∃ A cA B cB, (W'.cell? ⟨gb, i * 5, none⟩ = some (.int .i64 y.o) ∧ W'.cell? ⟨gb, i * 5 + 1, none⟩ = some (.string y.v.ty) ∧ W'.cell? ⟨gb, i * 5 + 2, none⟩ = some (.int .i64 y.v.n) ∧ W'.cell? ⟨gb, i * 5 + 3, none⟩ = some (.slice A y.v.parts.length cA) ∧ W'.cell? ⟨gb, i * 5 + 4, none⟩ = some (.slice B y.v.path.length cB)) ∧ I64 y.o ∧
      VRd (Cod.val 9) (fun b => lo ≤ b ∧ b < W.heap.size ∧ b ≠ gb) W (.slice A y.v.parts.length cA) (.slice B y.v.path.length cB) y.v) : KRow lo W' gb cap ys :=
  ⟨h.base, by rw [hl]; exact h.len, h.cap_, hr, fun i y hi => by
    obtain ⟨A, cA, B, cB, h1, h2, h3⟩ := ha i y hi
    exact ⟨A, cA, B, cB, h1, h2, (h3.keep fun b hb => hk b hb.2.2).mono fun b hb => ⟨hb.1, by rw [hs]; exact hb.2.1, hb.2.2⟩⟩⟩

/-- Two elements change places. -/
theorem KRow.swap {lo gb cap : Nat} {W W' : World} {x0 x1 : KepR} {r : List KepR} (h : KRow lo W gb cap (x0 :: x1 :: r)) (hs : W'.heap.size = W.heap.size) (hk : ∀ b, b ≠ gb → W'.heap[b]? = W.heap[b]?) (hr : ∃ cur, Blk W' gb 61 cur ∧ cur.size = cap * 5)
    (h0 : ∀ j, j < 5 → W'.cell? ⟨gb, j, none⟩ = W.cell? ⟨gb, 5 + j, none⟩) (h1 : ∀ j, j < 5 → W'.cell? ⟨gb, 5 + j, none⟩ = W.cell? ⟨gb, j, none⟩) (h2 : ∀ j, 10 ≤ j → W'.cell? ⟨gb, j, none⟩ = W.cell? ⟨gb, j, none⟩) : KRow lo W' gb cap (x1 :: x0 :: r) :=
  h.turn hs hk hr rfl fun i y hi => by
    match i, hi with
    | 0, hi =>
      obtain rfl : x1 = y := by simpa using hi
      obtain ⟨A, cA, B, cB, ⟨c0, c1, c2, c3, c4⟩, a2, a3⟩ := h.at_ 1 x1 rfl
      exact ⟨A, cA, B, cB, ⟨(h0 0 (by omega)).trans c0, (h0 1 (by omega)).trans c1, (h0 2 (by omega)).trans c2, (h0 3 (by omega)).trans c3, (h0 4 (by omega)).trans c4⟩, a2, a3⟩
    | 1, hi =>
      obtain rfl : x0 = y := by simpa using hi
      obtain ⟨A, cA, B, cB, ⟨c0, c1, c2, c3, c4⟩, a2, a3⟩ := h.at_ 0 x0 rfl
      exact ⟨A, cA, B, cB, ⟨(h1 0 (by omega)).trans c0, (h1 1 (by omega)).trans c1, (h1 2 (by omega)).trans c2, (h1 3 (by omega)).trans c3, (h1 4 (by omega)).trans c4⟩, a2, a3⟩
    | i + 2, hi =>
      obtain ⟨A, cA, B, cB, ⟨c0, c1, c2, c3, c4⟩, a2, a3⟩ := h.at_ (i + 2) y (by simpa using hi)
      exact ⟨A, cA, B, cB, ⟨(h2 _ (by omega)).trans c0, (h2 _ (by omega)).trans c1, (h2 _ (by omega)).trans c2, (h2 _ (by omega)).trans c3, (h2 _ (by omega)).trans c4⟩, a2, a3⟩

/-- The first element's value is another one. -/
theorem KRow.spoil {lo gb cap : Nat} {W W' : World} {x0 : KepR} {r : List KepR} {v : Val} {A B : Option Addr} {cA cB : Nat} (h : KRow lo W gb cap (x0 :: r)) (hs : W'.heap.size = W.heap.size) (hk : ∀ b, b ≠ gb → W'.heap[b]? = W.heap[b]?) (hr : ∃ cur, Blk W' gb 61 cur ∧ cur.size = cap * 5)
    (h0 : W'.cell? ⟨gb, 0, none⟩ = W.cell? ⟨gb, 0, none⟩) (h1 : W'.cell? ⟨gb, 1, none⟩ = some (.string v.ty)) (h2 : W'.cell? ⟨gb, 2, none⟩ = some (.int .i64 v.n)) (h3 : W'.cell? ⟨gb, 3, none⟩ = some (.slice A v.parts.length cA)) (h4 : W'.cell? ⟨gb, 4, none⟩ = some (.slice B v.path.length cB)) (h5 : ∀ j, 5 ≤ j → W'.cell? ⟨gb, j, none⟩ = W.cell? ⟨gb, j, none⟩)
    (hV : VRd (Cod.val 9) (fun b => lo ≤ b ∧ b < W.heap.size ∧ b ≠ gb) W (.slice A v.parts.length cA) (.slice B v.path.length cB) v) : KRow lo W' gb cap (⟨x0.o, v⟩ :: r) :=
  h.turn hs hk hr rfl fun i y hi => by
    match i, hi with
    | 0, hi =>
      obtain rfl : (⟨x0.o, v⟩ : KepR) = y := by simpa using hi
      obtain ⟨_, _, _, _, ⟨c0, _⟩, a2, _⟩ := h.at_ 0 x0 rfl
      exact ⟨A, cA, B, cB, ⟨h0.trans c0, h1, h2, h3, h4⟩, a2, hV⟩
    | i + 1, hi =>
      obtain ⟨A, cA, B, cB, ⟨c0, c1, c2, c3, c4⟩, a2, a3⟩ := h.at_ (i + 1) y (by simpa using hi)
      exact ⟨A, cA, B, cB, ⟨(h5 _ (by omega)).trans c0, (h5 _ (by omega)).trans c1, (h5 _ (by omega)).trans c2, (h5 _ (by omega)).trans c3, (h5 _ (by omega)).trans c4⟩, a2, a3⟩

/-- The first two elements' cells have changed places. -/
theorem KRow.swap10 {lo gb cap : Nat} {W : World} {ys : List KepR} {x0 x1 : KepR} {v0 v1 v2 v3 v4 v5 v6 v7 v8 v9 : Value} (h : KRow lo W gb cap ys) (h0 : ys[0]? = some x0) (h1 : ys[1]? = some x1)
    (c0 : W.cell? ⟨gb, 0, none⟩ = some v0) (c1 : W.cell? ⟨gb, 1, none⟩ = some v1) (c2 : W.cell? ⟨gb, 2, none⟩ = some v2) (c3 : W.cell? ⟨gb, 3, none⟩ = some v3) (c4 : W.cell? ⟨gb, 4, none⟩ = some v4) (c5 : W.cell? ⟨gb, 5, none⟩ = some v5) (c6 : W.cell? ⟨gb, 6, none⟩ = some v6) (c7 : W.cell? ⟨gb, 7, none⟩ = some v7) (c8 : W.cell? ⟨gb, 8, none⟩ = some v8) (c9 : W.cell? ⟨gb, 9, none⟩ = some v9) :
    ∃ zs : List KepR, zs.length = ys.length ∧ (∀ z ∈ zs, z ∈ ys) ∧ KRow lo ((((((((((W.setCell ⟨gb, 0, none⟩ v5).setCell ⟨gb, 1, none⟩ v6).setCell ⟨gb, 2, none⟩ v7).setCell ⟨gb, 3, none⟩ v8).setCell ⟨gb, 4, none⟩ v9).setCell ⟨gb, 5, none⟩ v0).setCell ⟨gb, 6, none⟩ v1).setCell ⟨gb, 7, none⟩ v2).setCell ⟨gb, 8, none⟩ v3).setCell ⟨gb, 9, none⟩ v4) gb cap zs ∧ ∀ b, b ≠ gb → ((((((((((W.setCell ⟨gb, 0, none⟩ v5).setCell ⟨gb, 1, none⟩ v6).setCell ⟨gb, 2, none⟩ v7).setCell ⟨gb, 3, none⟩ v8).setCell ⟨gb, 4, none⟩ v9).setCell ⟨gb, 5, none⟩ v0).setCell ⟨gb, 6, none⟩ v1).setCell ⟨gb, 7, none⟩ v2).setCell ⟨gb, 8, none⟩ v3).setCell ⟨gb, 9, none⟩ v4).heap[b]? = W.heap[b]? := by
  obtain ⟨r, rfl⟩ : ∃ r, ys = x0 :: x1 :: r := by
    match ys, h0, h1 with
    | a :: b :: r, h0, h1 =>
      obtain rfl : a = x0 := by simpa using h0
      obtain rfl : b = x1 := by simpa using h1
      exact ⟨r, rfl⟩
  obtain ⟨cur, hB, hc⟩ := h.row
  have hl := h.len
  simp only [List.length_cons] at hl
  have hz : 10 ≤ cur.size := by omega
  have hne : cur ≠ #[] := by rintro rfl; simp at hz
  have hB10 := ((((((((((hB.set_ 0 v5).set_ 1 v6).set_ 2 v7).set_ 3 v8).set_ 4 v9).set_ 5 v0).set_ 6 v1).set_ 7 v2).set_ 8 v3).set_ 9 v4)
  have hko : ∀ b, b ≠ gb → ((((((((((W.setCell ⟨gb, 0, none⟩ v5).setCell ⟨gb, 1, none⟩ v6).setCell ⟨gb, 2, none⟩ v7).setCell ⟨gb, 3, none⟩ v8).setCell ⟨gb, 4, none⟩ v9).setCell ⟨gb, 5, none⟩ v0).setCell ⟨gb, 6, none⟩ v1).setCell ⟨gb, 7, none⟩ v2).setCell ⟨gb, 8, none⟩ v3).setCell ⟨gb, 9, none⟩ v4).heap[b]? = W.heap[b]? := fun b hb => by
    simp only [Below.heap_setCell _ _ _ _ (show b ≠ (⟨gb, 0, none⟩ : Addr).block from hb), Below.heap_setCell _ _ _ _ (show b ≠ (⟨gb, 1, none⟩ : Addr).block from hb), Below.heap_setCell _ _ _ _ (show b ≠ (⟨gb, 2, none⟩ : Addr).block from hb), Below.heap_setCell _ _ _ _ (show b ≠ (⟨gb, 3, none⟩ : Addr).block from hb), Below.heap_setCell _ _ _ _ (show b ≠ (⟨gb, 4, none⟩ : Addr).block from hb), Below.heap_setCell _ _ _ _ (show b ≠ (⟨gb, 5, none⟩ : Addr).block from hb), Below.heap_setCell _ _ _ _ (show b ≠ (⟨gb, 6, none⟩ : Addr).block from hb), Below.heap_setCell _ _ _ _ (show b ≠ (⟨gb, 7, none⟩ : Addr).block from hb), Below.heap_setCell _ _ _ _ (show b ≠ (⟨gb, 8, none⟩ : Addr).block from hb), Below.heap_setCell _ _ _ _ (show b ≠ (⟨gb, 9, none⟩ : Addr).block from hb)]
  refine ⟨x1 :: x0 :: r, rfl, fun z hz => by simp only [List.mem_cons] at hz ⊢; rcases hz with h | h | h; exact .inr (.inl h); exact .inl h; exact .inr (.inr h), ?_, hko⟩
  refine h.swap (by simp [World.setCell]) hko ⟨_, hB10, by simp [hc]⟩ (fun j hj => ?_) (fun j hj => ?_) (fun j hj => ?_)
  · rw [hB10.cell]
    rcases (show j = 0 ∨ j = 1 ∨ j = 2 ∨ j = 3 ∨ j = 4 by omega) with rfl | rfl | rfl | rfl | rfl
    · rw [c5]; simp [Array.getElem?_setIfInBounds]; exact hne
    · rw [c6]; simp [Array.getElem?_setIfInBounds]; omega
    · rw [c7]; simp [Array.getElem?_setIfInBounds]; omega
    · rw [c8]; simp [Array.getElem?_setIfInBounds]; omega
    · rw [c9]; simp [Array.getElem?_setIfInBounds]; omega
  · rw [hB10.cell]
    rcases (show j = 0 ∨ j = 1 ∨ j = 2 ∨ j = 3 ∨ j = 4 by omega) with rfl | rfl | rfl | rfl | rfl
    · rw [c0]; simp [Array.getElem?_setIfInBounds]; omega
    · rw [c1]; simp [Array.getElem?_setIfInBounds]; omega
    · rw [c2]; simp [Array.getElem?_setIfInBounds]; omega
    · rw [c3]; simp [Array.getElem?_setIfInBounds]; omega
    · rw [c4]; simp [Array.getElem?_setIfInBounds]; omega
  · rw [hB10.cell, hB.cell]
    have n0 : ¬ 0 = j := by omega
    have n1 : ¬ 1 = j := by omega
    have n2 : ¬ 2 = j := by omega
    have n3 : ¬ 3 = j := by omega
    have n4 : ¬ 4 = j := by omega
    have n5 : ¬ 5 = j := by omega
    have n6 : ¬ 6 = j := by omega
    have n7 : ¬ 7 = j := by omega
    have n8 : ¬ 8 = j := by omega
    have n9 : ¬ 9 = j := by omega
    simp [Array.getElem?_setIfInBounds, n0, n1, n2, n3, n4, n5, n6, n7, n8, n9]

/-- The first element's value has been written. -/
theorem KRow.spoil4 {lo gb cap : Nat} {W : World} {ys : List KepR} {x0 : KepR} {v : Val} {A B : Option Addr} {cA cB : Nat} (h : KRow lo W gb cap ys) (h0 : ys[0]? = some x0) (hV : VRd (Cod.val 9) (fun b => lo ≤ b ∧ b < W.heap.size ∧ b ≠ gb) W (.slice A v.parts.length cA) (.slice B v.path.length cB) v) :
    ∃ us : List KepR, us.length = ys.length ∧ (∀ z ∈ us, z ∈ ys ∨ z = ⟨x0.o, v⟩) ∧ KRow lo ((((W.setCell ⟨gb, 1, none⟩ (.string v.ty)).setCell ⟨gb, 2, none⟩ (.int .i64 v.n)).setCell ⟨gb, 3, none⟩ (.slice A v.parts.length cA)).setCell ⟨gb, 4, none⟩ (.slice B v.path.length cB)) gb cap us ∧ ∀ b, b ≠ gb → ((((W.setCell ⟨gb, 1, none⟩ (.string v.ty)).setCell ⟨gb, 2, none⟩ (.int .i64 v.n)).setCell ⟨gb, 3, none⟩ (.slice A v.parts.length cA)).setCell ⟨gb, 4, none⟩ (.slice B v.path.length cB)).heap[b]? = W.heap[b]? := by
  obtain ⟨r, rfl⟩ : ∃ r, ys = x0 :: r := by
    match ys, h0 with
    | a :: r, h0 =>
      obtain rfl : a = x0 := by simpa using h0
      exact ⟨r, rfl⟩
  obtain ⟨cur, hB, hc⟩ := h.row
  have hl := h.len
  simp only [List.length_cons] at hl
  have hz : 5 ≤ cur.size := by omega
  have hB4 := (((hB.set_ 1 (.string v.ty)).set_ 2 (.int .i64 v.n)).set_ 3 (.slice A v.parts.length cA)).set_ 4 (.slice B v.path.length cB)
  have hko : ∀ b, b ≠ gb → ((((W.setCell ⟨gb, 1, none⟩ (.string v.ty)).setCell ⟨gb, 2, none⟩ (.int .i64 v.n)).setCell ⟨gb, 3, none⟩ (.slice A v.parts.length cA)).setCell ⟨gb, 4, none⟩ (.slice B v.path.length cB)).heap[b]? = W.heap[b]? := fun b hb => by
    simp only [Below.heap_setCell _ _ _ _ (show b ≠ (⟨gb, 1, none⟩ : Addr).block from hb), Below.heap_setCell _ _ _ _ (show b ≠ (⟨gb, 2, none⟩ : Addr).block from hb), Below.heap_setCell _ _ _ _ (show b ≠ (⟨gb, 3, none⟩ : Addr).block from hb), Below.heap_setCell _ _ _ _ (show b ≠ (⟨gb, 4, none⟩ : Addr).block from hb)]
  refine ⟨⟨x0.o, v⟩ :: r, rfl, fun z hz => by simp only [List.mem_cons] at hz ⊢; rcases hz with h | h; exact .inr h; exact .inl (.inr h), ?_, hko⟩
  refine h.spoil (by simp [World.setCell]) hko ⟨_, hB4, by simp [hc]⟩ ?_ ?_ ?_ ?_ ?_ (fun j hj => ?_) hV
  · rw [hB4.cell, hB.cell]; simp [Array.getElem?_setIfInBounds]
  · rw [hB4.cell]; simp [Array.getElem?_setIfInBounds]; omega
  · rw [hB4.cell]; simp [Array.getElem?_setIfInBounds]; omega
  · rw [hB4.cell]; simp [Array.getElem?_setIfInBounds]; omega
  · rw [hB4.cell]; simp [Array.getElem?_setIfInBounds]; omega
  · rw [hB4.cell, hB.cell]
    have n1 : ¬ 1 = j := by omega
    have n2 : ¬ 2 = j := by omega
    have n3 : ¬ 3 = j := by omega
    have n4 : ¬ 4 = j := by omega
    simp [Array.getElem?_setIfInBounds, n1, n2, n3, n4]

/-- What of a drawn element is known in the end. -/
def GoodDs (x : KepR) : Prop := sizeOf' (fun _ => 1) (sizeV 9) x.v ≤ 2000000 ∧ x.v.parts.length ≤ 4
/-- .. and before the spoiling. -/
def GoodDp (x : KepR) : Prop := GoodDs x ∧ x.v.path = []
def DrawnVs (W : World) (e : Ending) (w' : World) : Prop :=
  ∃ (ad cap : Nat) (ks : Ks) (A : Option Addr) (cap2 : Nat) (xs : List KepR), e = .returned (.tuple #[.slice (some ⟨ad, 0, none⟩) ks.length cap, .slice A xs.length cap2]) ∧
    Made Cod.recs W w' (.slice (some ⟨ad, 0, none⟩) ks.length cap) ks ∧ (Cod.kept (Cod.val 9)).Sl (Fresh W w') w' (.slice A xs.length cap2) xs ∧ (∀ x ∈ xs, GoodDs x) ∧ xs.length ≤ 36

/-- When the kinds and the vaults have been drawn. -/
structure DrS (G : KepR → Prop) (g N lo : Nat) (w1 W : World) (F : Nat → Prop) (kv : Value) (ks : Ks) (A : Option Addr) (cap : Nat) (xs : List KepR) : Prop where
  step : Step g 0 N w1 W
  ks_ : Cod.recs.Sl F W kv ks
  sl : (Cod.kept (Cod.val 9)).Sl (fun b => lo ≤ b ∧ b < W.heap.size) W (.slice A xs.length cap) xs
  row : 0 < xs.length → ∃ gb, A = some ⟨gb, 0, none⟩ ∧ KRow lo W gb cap xs
  len : xs.length ≤ 36
  good : ∀ x ∈ xs, G x
theorem DrS.of_own {G : KepR → Prop} {g N lo base : Nat} {w1 W : World} {F : Nat → Prop} {kv : Value} {ks : Ks} {A : Option Addr} {cap : Nat} {xs : List KepR} (hs : Step g 0 N w1 W) (hk : Cod.recs.Sl F W kv ks) (h : OwnRow (Cod.kept (Cod.val 9)) 61 base base W (.slice A xs.length cap) xs) (hb : lo ≤ base) (hl : xs.length ≤ 36) (hg : ∀ x ∈ xs, G x) : DrS G g N lo w1 W F kv ks A cap xs := by
  have h1 := h.down hb hb
  refine ⟨hs, hk, h1.sl (Nat.le_refl _), fun hp => ?_, hl, hg⟩
  obtain ⟨us, h0, _⟩ := id h1
  rcases h0.2 with ⟨hv, h2⟩ | ⟨gb, cap', cur, hv, _⟩
  · omega
  · simp only [Value.slice.injEq] at hv
    obtain ⟨rfl, _, _⟩ := hv
    exact ⟨gb, rfl, KRow.of_own h1 (Nat.le_refl _)⟩
theorem DrS.go {G : KepR → Prop} {g N M lo : Nat} {w1 W W' : World} {F : Nat → Prop} {kv : Value} {ks : Ks} {A : Option Addr} {cap : Nat} {xs : List KepR} (h : DrS G g N lo w1 W F kv ks A cap xs) (hF : ∀ b, F b → b < W.heap.size ∧ b ≠ g) (hg : g < lo) (hs : Step g 0 M w1 W') (hb : W.grownBy W' (some g)) : DrS G g M lo w1 W' F kv ks A cap xs := by
  refine ⟨hs, h.ks_.keep fun b hf => hb.block b (hF b hf).1 (by have := (hF b hf).2; simp; omega), ?_, fun hp => ?_, h.len, h.good⟩
  · exact (h.sl.keep fun b hf => hb.block b hf.2 (by have := hf.1; simp; omega)).mono fun b hf => ⟨hf.1, Nat.lt_of_lt_of_le hf.2 hb.size⟩
  · obtain ⟨gb, h1, h2⟩ := h.row hp
    exact ⟨gb, h1, h2.grow hb hg⟩

theorem DrS.turned0 {G H : KepR → Prop} {g N M lo gb cap : Nat} {w1 W W' : World} {F : Nat → Prop} {kv : Value} {ks : Ks} {xs zs : List KepR} (h : DrS G g N lo w1 W F kv ks (some ⟨gb, 0, none⟩) cap xs) (hF : ∀ b, F b → b < lo) (hgb : lo ≤ gb) (hs : Step g 0 M w1 W') (he : ∀ b, b ≠ gb → W'.heap[b]? = W.heap[b]?) (hz : zs.length = xs.length) (hm : ∀ z ∈ zs, H z) (hk : KRow lo W' gb cap zs) : DrS H g M lo w1 W' F kv ks (some ⟨gb, 0, none⟩) cap zs :=
  ⟨hs, h.ks_.keep fun b hb => he b (by have := hF b hb; omega), hk.sl, fun _ => ⟨gb, rfl, hk⟩, by rw [hz]; exact h.len, hm⟩
theorem DrS.turned {G H : KepR → Prop} {g N M lo gb cap : Nat} {w1 W W' : World} {F : Nat → Prop} {kv : Value} {ks : Ks} {xs zs : List KepR} (h : DrS G g N lo w1 W F kv ks (some ⟨gb, 0, none⟩) cap xs) (hF : ∀ b, F b → b < lo) (hgb : lo ≤ gb) (hs : Step g 0 M w1 W') (he : ∀ b, b ≠ gb → W'.heap[b]? = W.heap[b]?) (hz : zs.length = xs.length) (hm : ∀ z ∈ zs, H z) (hk : KRow lo W' gb cap zs) : DrS H g M lo w1 W'.drew F kv ks (some ⟨gb, 0, none⟩) cap zs :=
  h.turned0 (W' := W'.drew) hF hgb (hs.below (below_draw _)) he hz hm hk.drew

set_option maxRecDepth 100000 in
set_option maxHeartbeats 8000000 in
theorem drawVaultsOk_any (F : Nat → Prop) (v : Value) (xs : List Nat) (w : World) (hv : Cod.u8.Sl F w v xs) (hF : ∀ b, F b → b < w.heap.size) :
    Calls Try.prog 23 #[v] w (DrawnVs w) := by
  have HO := Lib.hid (open_any F v xs w hv hF)
  clear hv hF
  go_enter Try.func23, Try.ntmps23
  go_wp2_with fail
  refine HO.out.mono ?_
  rintro e w1 ⟨g, rfl, hg, hr, hb⟩
  have HR := Lib.hid hr
  have HB := Lib.hid hb
  have hgl := hr.lt
  clear hr hb HO
  go_wp2_with fail
  refine (kinds_any g 0 w1 HR.out (by omega)).mono ?_
  rintro e w2 ⟨ad, cap, ks, rfl, h3, h4, hs, hst, he⟩
  obtain ⟨q, hq, hrq⟩ := id hst.rdr
  have HS := Lib.hid hs
  have HS2 := Lib.hid hst
  have HF2 := Lib.hid (show ∀ b, Fresh w1 w2 b → b < w2.heap.size ∧ b ≠ g from fun b hb => ⟨hb.2, by have := hb.1; omega⟩)
  have HL := Lib.hid (show Lens ks from ⟨h3, h4⟩)
  have HE := Lib.hid he
  obtain ⟨w3, hw3⟩ : ∃ u, u = w2.alloc (.cells #[] 61) := ⟨_, rfl⟩
  have hb3 : Below w2.heap.size w2 w3 := by rw [hw3]; exact (Below.refl _ _).alloc (Nat.le_refl _) _
  have HR3 := Lib.hid (show Blk w3 w2.heap.size 61 #[] by rw [hw3]; exact Blk.new _ _ _)
  have HS3 := Lib.hid (HS.out.keep (below_keeps hb3 fun b hb => (HF2.out b hb).1))
  have HT3 := Lib.hid (HS2.out.below hb3)
  have Hw3 := Lib.hid hw3
  have hl3 := hb3.size
  clear hs hst he hw3 hb3
  go_wp2_with fail
  rw [← Hw3.out]
  have HF3 : Hid (∀ b, Fresh w1 w2 b → b < w3.heap.size ∧ b ≠ g) := Lib.hid fun b hb => ⟨Nat.lt_of_lt_of_le (HF2.out b hb).1 hl3, (HF2.out b hb).2⟩
  have HKo := Lib.hid (specKindsOk_any (Fresh w1 w2) _ ks w3 HS3.out (fun b hb => (HF3.out b hb).1))
  go_upto_if 13 with (go_at_call 44; (with_reducible refine HKo.out.mono ?_); rintro e w4 ⟨rfl, hb4⟩)
  have HS4 := Lib.hid (HS3.out.keep (below_keeps hb4 fun b hb => (HF3.out b hb).1))
  have HT4 := Lib.hid (HT3.out.below hb4)
  have HF4 : Hid (∀ b, Fresh w1 w2 b → b < w4.heap.size ∧ b ≠ g) := Lib.hid fun b hb => ⟨Nat.lt_of_lt_of_le (HF3.out b hb).1 hb4.size, (HF3.out b hb).2⟩
  have hl12 : w1.heap.size ≤ w2.heap.size := HS2.out.size
  have HOw := Lib.hid (show OwnRow (Cod.kept (Cod.val 9)) 61 w2.heap.size w2.heap.size w4 (.slice (some ⟨w2.heap.size, 0, none⟩) 0 0) ([] : List KepR) by
    have := (OwnRow.lit (c := Cod.kept (Cod.val 9)) (e := 61) (cb := w2.heap.size) w2 (Nat.le_refl _))
    rw [← Hw3.out] at this
    exact this.below (Nat.le_refl _) hb4)
  have hl4 : w2.heap.size ≤ w4.heap.size := Nat.le_trans hl3 hb4.size
  clear hb4
  go_cut [6] (fun s wx => ∃ (A : Option Addr) (cap2 : Nat) (ys : List KepR), s = .slice A ys.length cap2 ∧ Hid (DrS GoodDp g 13000000 w2.heap.size w1 wx (Fresh w1 w2) (.slice (some ⟨ad, 0, none⟩) ks.length cap) ks A cap2 ys) ∧ w2.heap.size ≤ wx.heap.size)
  case first =>
    cases hok : kindsOk ks with
    | false =>
      have HQ := Lib.hid (DrS.of_own (G := GoodDp) (HT4.out.more (by omega : 0 + 300 ≤ 13000000)) HS4.out (xs := []) HOw.out (Nat.le_refl _) (by simp) (fun _ h => by cases h))
      go_wp2_with fail
      go_meet
      exact ⟨_, _, [], rfl, HQ, hl4⟩
    | true =>
      obtain ⟨q4, hq4, hr4⟩ := HT4.out.rdr
      have HVs := Lib.hid (vaults_any HL.out HE.out hok (Fresh w1 w2) g q4 _ w4 hr4 (by omega) HS4.out HF4.out)
      clear hr4
      go_wp2_with fail
      with_reducible refine HVs.out.mono ?_
      rintro e w5 ⟨A, cap2, ys, rfl, hlen, hD⟩
      have HQ := Lib.hid (DrS.of_own (w1 := w1) (g := g) (N := 13000000) (F := Fresh w1 w2) (W := w5) (kv := .slice (some ⟨ad, 0, none⟩) ks.length cap) (ks := ks) ⟨by obtain ⟨q5, hq5, hr5⟩ := hD.step.rdr; exact ⟨q5, by omega, hr5⟩, grown_trans HT4.out.grown hD.step.grown⟩ (HS4.out.keep (hD.step.keeps HF4.out)) hD.own hl4 hlen (G := GoodDp) (fun x hx => ⟨⟨Int.le_trans (hD.good x hx).2.2.2.1 (by rw [nine_max]; omega), (hD.good x hx).2.2.1⟩, (hD.good x hx).2.1⟩))
      have hl5 : w2.heap.size ≤ w5.heap.size := Nat.le_trans hl4 hD.step.size
      clear hD hlen
      go_wp2_with fail
      go_meet
      exact ⟨_, _, ys, rfl, HQ, hl5⟩
  case rest =>
    obtain ⟨A, cap2, ys, rfl, HD, hlc⟩ := hcut
    have hF5 : ∀ b, Fresh w1 w2 b → b < wc.heap.size ∧ b ≠ g := fun b hb => ⟨Nat.lt_of_lt_of_le (HF2.out b hb).1 hlc, (HF2.out b hb).2⟩
    have HF5 := Lib.hid hF5
    clear hF5 HS4 HT4 HF4 HOw HKo HS3 HT3 HF3 HR3
    go_upto_region 6 with fail
    go_cut [24] from 17 to 24 (fun t wx => ∃ b : Bool, t = .bool b ∧ (b = true → 1 < ys.length) ∧ Hid (DrS GoodDp g 13000001 w2.heap.size w1 wx (Fresh w1 w2) (.slice (some ⟨ad, 0, none⟩) ks.length cap) ks A cap2 ys) ∧ w2.heap.size ≤ wx.heap.size)
    case first =>
      go_wp2_with fail
      refine (pick_at (n := 6) HD.out.step (by omega) (by omega)).mono ?_
      rintro e wp ⟨k, rfl, hk, hS5, hg5⟩
      have HD5 := Lib.hid (HD.out.go HF5.out (Nat.lt_of_lt_of_le hgl hl12) hS5 hg5)
      have hlp : w2.heap.size ≤ wp.heap.size := Nat.le_trans hlc hg5.size
      clear hS5 hg5
      by_cases k0 : k = 0
      · have b0 : ((k : Int) == 0) = true := by rw [beq_iff_eq]; omega
        by_cases hn : 1 < ys.length
        · have b1 : decide ((1 : Int) < (ys.length : Int)) = true := decide_eq_true (by omega)
          go_wp2_with fail
          go_meet
          exact ⟨true, rfl, fun _ => hn, HD5, hlp⟩
        · have b1 : decide ((1 : Int) < (ys.length : Int)) = false := decide_eq_false (by omega)
          go_wp2_with fail
          go_meet
          exact ⟨false, rfl, fun h => (by cases h), HD5, hlp⟩
      · have b0 : ((k : Int) == 0) = false := by rw [beq_eq_false_iff_ne]; omega
        go_wp2_with fail
        go_meet
        exact ⟨false, rfl, fun h => (by cases h), HD5, hlp⟩
    case rest =>
      obtain ⟨b, rfl, hb, HD6, hlc6⟩ := hcut
      have HF6 := Lib.hid (show ∀ b, Fresh w1 w2 b → b < w2.heap.size ∧ b ≠ g from HF2.out)
      clear HD hlc HF5
      go_upto_if 24 with fail
      go_cut [6] (fun s wx => s = .slice A ys.length cap2 ∧ ∃ zs : List KepR, zs.length = ys.length ∧ Hid (DrS GoodDp g 13000001 w2.heap.size w1 wx (Fresh w1 w2) (.slice (some ⟨ad, 0, none⟩) ks.length cap) ks A cap2 zs) ∧ w2.heap.size ≤ wx.heap.size)
      case first =>
        cases b with
        | false =>
          go_wp2_with fail
          go_meet
          exact ⟨rfl, ys, rfl, HD6, hlc6⟩
        | true =>
          have hn := hb rfl
          obtain ⟨gb, rfl, hrow⟩ := HD6.out.row (by omega)
          have HRw := Lib.hid hrow
          obtain ⟨x0, hx0⟩ : ∃ x, ys[0]? = some x := ⟨ys[0], List.getElem?_eq_getElem (by omega)⟩
          obtain ⟨x1, hx1⟩ : ∃ x, ys[1]? = some x := ⟨ys[1], List.getElem?_eq_getElem (by omega)⟩
          obtain ⟨A0, cA0, B0, cB0, ⟨c0, c1, c2, c3, c4⟩, -, -⟩ := hrow.at_ 0 x0 hx0
          obtain ⟨A1, cA1, B1, cB1, ⟨c5, c6, c7, c8, c9⟩, -, -⟩ := hrow.at_ 1 x1 hx1
          obtain ⟨cur, hB, hcs⟩ := hrow.row
          have hlen := hrow.len
          have hcm := hrow.cap_
          unfold maxLen at hcm
          simp only [Nat.zero_mul, Nat.zero_add, Nat.one_mul, Nat.reduceAdd] at c0 c1 c2 c3 c4 c5 c6 c7 c8 c9
          have f0 := hB.frozen 0
          have f1 := hB.frozen 1
          have f2 := hB.frozen 2
          have f3 := hB.frozen 3
          have f4 := hB.frozen 4
          have f5 := hB.frozen 5
          have f6 := hB.frozen 6
          have f7 := hB.frozen 7
          have f8 := hB.frozen 8
          have f9 := hB.frozen 9
          have i0 : (0 : Int) < ys.length := by omega
          have i1 : (1 : Int) < ys.length := by omega
          have HBb := Lib.hid hB
          have Hx0 := Lib.hid hx0
          have Hx1 := Lib.hid hx1
          clear hrow hB hx0 hx1 hb hcs
          go_wp2_with fail
          go_region
          go_wp2_with fail
          go_meet
          obtain ⟨zs, z1, z2, z3, z4⟩ := HRw.out.swap10 Hx0.out Hx1.out c0 c1 c2 c3 c4 c5 c6 c7 c8 c9
          have hgb := HRw.out.base
          have hg1 : w1.heap.size ≤ gb := Nat.le_trans hl12 hgb
          exact ⟨rfl, zs, z1, Lib.hid (HD6.out.turned (fun b hb => hb.2) hgb ((((((((((HD6.out.step.set_ hg1 hgl).set_ hg1 hgl).set_ hg1 hgl).set_ hg1 hgl).set_ hg1 hgl).set_ hg1 hgl).set_ hg1 hgl).set_ hg1 hgl).set_ hg1 hgl).set_ hg1 hgl) z4 z1 (fun z hz => HD6.out.good z (z2 z hz)) z3), by simpa [World.setCell] using hlc6⟩
      case rest =>
        obtain ⟨rfl, zs, hzl, HD7, hlc7⟩ := hcut
        rw [← hzl]
        have HF7 := Lib.hid (show ∀ b, Fresh w1 w2 b → b < wc.heap.size ∧ b ≠ g from fun b hb => ⟨Nat.lt_of_lt_of_le (HF2.out b hb).1 hlc7, (HF2.out b hb).2⟩)
        clear HD6 hlc6 hb hzl
        go_upto_region 8 with fail
        go_cut [42] from 35 to 42 (fun t wx => ∃ b : Bool, t = .bool b ∧ (b = true → 0 < zs.length) ∧ Hid (DrS GoodDp g 13000002 w2.heap.size w1 wx (Fresh w1 w2) (.slice (some ⟨ad, 0, none⟩) ks.length cap) ks A cap2 zs) ∧ w2.heap.size ≤ wx.heap.size)
        case first =>
          go_wp2_with fail
          refine (pick_at (n := 8) HD7.out.step (by omega) (by omega)).mono ?_
          rintro e wp ⟨k, rfl, hk, hS5, hg5⟩
          have HD5 := Lib.hid (HD7.out.go HF7.out (Nat.lt_of_lt_of_le hgl hl12) hS5 hg5)
          have hlp : w2.heap.size ≤ wp.heap.size := Nat.le_trans hlc7 hg5.size
          clear hS5 hg5
          by_cases k0 : k = 0
          · have b0 : ((k : Int) == 0) = true := by rw [beq_iff_eq]; omega
            by_cases hn : 0 < zs.length
            · have b1 : decide ((0 : Int) < (zs.length : Int)) = true := decide_eq_true (by omega)
              go_wp2_with fail
              go_meet
              exact ⟨true, rfl, fun _ => hn, HD5, hlp⟩
            · have b1 : decide ((0 : Int) < (zs.length : Int)) = false := decide_eq_false (by omega)
              go_wp2_with fail
              go_meet
              exact ⟨false, rfl, fun h => (by cases h), HD5, hlp⟩
          · have b0 : ((k : Int) == 0) = false := by rw [beq_eq_false_iff_ne]; omega
            go_wp2_with fail
            go_meet
            exact ⟨false, rfl, fun h => (by cases h), HD5, hlp⟩
        case rest =>
          obtain ⟨b, rfl, hb, HD8, hlc8⟩ := hcut
          clear HD7 hlc7 HF7
          go_upto_if 42 with fail
          go_cut [6] (fun s wx => s = .slice A zs.length cap2 ∧ ∃ us : List KepR, us.length = zs.length ∧ Hid (DrS GoodDs g 13000005 w2.heap.size w1 wx (Fresh w1 w2) (.slice (some ⟨ad, 0, none⟩) ks.length cap) ks A cap2 us) ∧ w2.heap.size ≤ wx.heap.size)
          case first =>
            cases b with
            | false =>
              have HQ := Lib.hid (show DrS GoodDs g 13000005 w2.heap.size w1 wc (Fresh w1 w2) (.slice (some ⟨ad, 0, none⟩) ks.length cap) ks A cap2 zs from ⟨HD8.out.step.more (by omega), HD8.out.ks_, HD8.out.sl, HD8.out.row, HD8.out.len, fun x hx => (HD8.out.good x hx).1⟩)
              go_wp2_with fail
              go_meet
              exact ⟨rfl, zs, rfl, HQ, hlc8⟩
            | true =>
              have hn := hb rfl
              obtain ⟨gb, rfl, hrow⟩ := HD8.out.row hn
              have HRw := Lib.hid hrow
              obtain ⟨x0, hx0⟩ : ∃ x, zs[0]? = some x := ⟨zs[0], List.getElem?_eq_getElem (by omega)⟩
              have hgd := HD8.out.good x0 (List.mem_of_getElem? hx0)
              obtain ⟨A0, cA0, B0, cB0, ⟨c0, c1, c2, c3, c4⟩, -, hV⟩ := hrow.at_ 0 x0 hx0
              obtain ⟨o0, ⟨ty, n, ps, pa⟩⟩ := x0
              obtain rfl : pa = [] := hgd.2
              obtain ⟨cur, hB, hcs⟩ := hrow.row
              have hlen := hrow.len
              have hcm := hrow.cap_
              unfold maxLen at hcm
              have hgb := hrow.base
              have hgl2 : g < w2.heap.size := Nat.lt_of_lt_of_le hgl hl12
              obtain ⟨q8, hq8, hr8⟩ := HD8.out.step.rdr
              simp only [Nat.zero_mul, Nat.zero_add] at c0 c1 c2 c3 c4
              have d1 : wc.cell? ⟨gb, 1, none⟩ = some (.string ty) := c1
              have d2 : wc.cell? ⟨gb, 2, none⟩ = some (.int .i64 n) := c2
              have d3 : wc.cell? ⟨gb, 3, none⟩ = some (.slice A0 ps.length cA0) := c3
              have d4 : wc.cell? ⟨gb, 4, none⟩ = some (.slice B0 0 cB0) := c4
              have HBad := Lib.hid (bad_any (fun b => w2.heap.size ≤ b ∧ b < wc.heap.size ∧ b ≠ gb) g q8 9 2000000 ty n ps A0 cA0 B0 cB0 wc hr8 (by omega) hV (fun b hb => ⟨hb.2.1, by have := hb.1; omega⟩) hgd.1.2 hgd.1.1)
              have i0 : (0 : Int) < zs.length := by omega
              have hgw : gb < wc.heap.size := hB.lt
              have HBb := Lib.hid hB
              have Hx0 := Lib.hid hx0
              have Hq8 := Lib.hid hq8
              clear c0 c1 c2 c3 c4 hrow hB hx0 hb hcs hgd hV hr8 hq8
              go_wp2_with fail
              with_reducible refine HBad.out.mono ?_
              rintro e w6 ⟨v5, A5, c5, B5, c5', rfl, hrd, hsz, hlen5, hS6⟩
              have hg6 := hS6.grown
              have hB6 : Blk w6 gb 61 cur := (hg6.block gb hgw (by simp; omega)).trans HBb.out
              have hrow6 := HRw.out.grow hg6 hgl2
              have e1 : w6.cell? ⟨gb, 1, none⟩ = some (.string ty) := (World.cell?_of_block (a := ⟨gb, 1, none⟩) (hg6.block gb hgw (by simp; omega))).trans d1
              have e2 : w6.cell? ⟨gb, 2, none⟩ = some (.int .i64 n) := (World.cell?_of_block (a := ⟨gb, 2, none⟩) (hg6.block gb hgw (by simp; omega))).trans d2
              have e3 : w6.cell? ⟨gb, 3, none⟩ = some (.slice A0 ps.length cA0) := (World.cell?_of_block (a := ⟨gb, 3, none⟩) (hg6.block gb hgw (by simp; omega))).trans d3
              have e4 : w6.cell? ⟨gb, 4, none⟩ = some (.slice B0 0 cB0) := (World.cell?_of_block (a := ⟨gb, 4, none⟩) (hg6.block gb hgw (by simp; omega))).trans d4
              have f1 := hB6.frozen 1
              have f2 := hB6.frozen 2
              have f3 := hB6.frozen 3
              have f4 := hB6.frozen 4
              have hz6 := hg6.size
              obtain ⟨us, u1, u2, u3, u4⟩ := hrow6.spoil4 Hx0.out (hrd.mono fun b hb => by
                rcases hb with hb | hb
                · exact ⟨hb.1, by have := hb.2.1; omega, hb.2.2⟩
                · exact ⟨by have := hb.1; omega, hb.2, by have := hb.1; omega⟩)
              have hst6 : Step g 0 13000005 w1 w6 := ⟨by obtain ⟨q9, h1, h2⟩ := hS6.rdr; have := Hq8.out; exact ⟨q9, by omega, h2⟩, grown_trans HD8.out.step.grown hg6⟩
              have hD6 : DrS GoodDp g 13000005 w2.heap.size w1 w6 (Fresh w1 w2) (.slice (some ⟨ad, 0, none⟩) ks.length cap) ks (some ⟨gb, 0, none⟩) cap2 zs := HD8.out.go (fun b hb => ⟨Nat.lt_of_lt_of_le hb.2 hlc8, by have := hb.1; omega⟩) hgl2 hst6 hg6
              have hg1 : w1.heap.size ≤ gb := Nat.le_trans hl12 hgb
              have HQ := Lib.hid (hD6.turned0 (H := GoodDs) (fun b hb => hb.2) hgb ((((hst6.set_ hg1 hgl).set_ hg1 hgl).set_ hg1 hgl).set_ hg1 hgl) u4 u1 (fun z hz => by
                rcases u2 z hz with h | rfl
                · exact (HD8.out.good z h).1
                · exact ⟨hsz, hlen5⟩) u3)
              have hl6 : w2.heap.size ≤ w6.heap.size := Nat.le_trans hlc8 hz6
              clear hrd hS6 hg6 hB6 hrow6 u2 u3 u4 hst6 hD6 hsz hlen5
              go_wp2_with fail
              go_meet
              exact ⟨rfl, us, u1, HQ, by simpa [World.setCell] using hl6⟩
          case rest =>
            obtain ⟨rfl, us, hul, HD9, hlc9⟩ := hcut
            have HQ := Lib.hid (show DrawnVs w (.returned (.tuple #[.slice (some ⟨ad, 0, none⟩) ks.length cap, .slice A us.length cap2])) wc from by
              have hbw : Below w.heap.size w wc := HB.out.trans (below_grown HD9.out.step.grown hg HB.out.size)
              refine ⟨ad, cap, ks, A, cap2, us, rfl, ⟨HD9.out.ks_.mono fun b hb => ⟨by have := hb.1; have := HB.out.size; omega, by have := hb.2; omega⟩, hbw⟩, HD9.out.sl.mono fun b hb => ⟨by have := hb.1; have := HB.out.size; omega, hb.2⟩, HD9.out.good, HD9.out.len⟩)
            rw [← hul]
            clear HD9 hlc9 hul HD8
            go_wp2
            go_ret2
            exact HQ.out
end Go.Proofs.Ytmomdflfjcboiaa
