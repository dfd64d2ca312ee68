/- The shape at the first instruction: of the model. ShapeFirst, of the model. -/
import Derived.Test.YtmomdflfjcboiaaDoorJs
import Derived.Test.YtmomdflfjcboiaaDoorOg
import Derived.Test.YtmomdflfjcboiaaDoorGj
import Derived.Test.YtmomdflfjcboiaaDoorHa
namespace Go.Proofs.YtmomdflfjcboiaaDoor
open Go.RowKit

/-- The mark of an argument. -/
def argM (t : ByteArray) : MarkR := ⟨t, if refB t then [9] else []⟩
def locM (_ : ByteArray) : MarkR := ⟨⟨#[]⟩, []⟩
def firstP (f : FunR) : List MarkR := f.args.map argM ++ f.locals.map locM
theorem firstP_len (f : FunR) : (firstP f).length = f.args.length + f.locals.length := by unfold firstP; simp

/-- append(places, mark). -/
theorem push_mark {lo m : Nat} {w : World} {v : Value} {xs : List MarkR} (h : OGrow OCod.markr 57 lo m w v xs) (hn : xs.length ≤ 2000000) (t : ByteArray) (ht : t.size ≤ maxLen) (A1 : Option Addr) (n1 c1 : Nat) (fr : List Int) (p q : Nat) (hp : m ≤ p) (hpq : p ≤ q) (hq : q ≤ w.heap.size) (ho : Own OCod.i64 3 p q w (.slice A1 n1 c1) fr) (hlo : lo ≤ w.heap.size) :
    ∃ g cap w', (Builtin.append_ #[24, 24] 24 #[v, .slice (some ⟨w.heap.size, 0, none⟩) 1 1]).run Tryd.prog (w.alloc (.cells #[.string t, .slice A1 n1 c1] 57)) = .ok (.slice (some ⟨g, 0, none⟩) (xs.length + 1) cap) w' ∧
      OGrow OCod.markr 57 lo w'.heap.size w' (.slice (some ⟨g, 0, none⟩) (xs.length + 1) cap) (xs ++ [⟨t, fr⟩]) ∧ Below lo w w' := by
  have hal : Below w.heap.size w (w.alloc (.cells #[.string t, .slice A1 n1 c1] 57)) := (Below.refl _ _).alloc (Nat.le_refl _) _
  obtain ⟨us, ho1, _, _, hm, _⟩ := id h
  have h2 : OGrow OCod.markr 57 lo m (w.alloc (.cells #[.string t, .slice A1 n1 c1] 57)) v xs := h.keep hal.size fun b g1 g2 => hal.block b (by omega)
  obtain ⟨g, cap, w', hr, hg, hw⟩ := h2.push 24 24 _ 2 40 Tryd.underlying24 info_markr rfl rfl (by omega) (by omega) hn p q w.heap.size 1 [.string t, .slice A1 n1 c1] ⟨t, fr⟩ (Blk.new w 57 #[.string t, .slice A1 n1 c1]) (fun u hu => by simp at hu; rcases hu with rfl | rfl <;> rfl) hp hpq (by simp; omega)
    ⟨_, rfl, ⟨ht, ho.keep fun b g1 g2 => hal.block b (by omega)⟩⟩
  exact ⟨g, cap, w', hr, hg, (hal.mono hlo).grown hw (by simp; omega) fun k hk => (ho1.lt k hk).1⟩
theorem own_nine (w : World) {p q : Nat} {g : Nat} (hB : Blk w g 3 #[.int .i64 9]) (hp : p ≤ g) (hq : g < q) : Own OCod.i64 3 p q w (.slice (some ⟨g, 0, none⟩) 1 1) [9] := by
  refine ⟨_, 1, rfl, Nat.le_refl _, by unfold maxLen; omega, fun _ => ⟨g, _, fun _ => p, fun _ => p, rfl, hp, hq, hB, fun i _ => ⟨Nat.le_refl _, Nat.le_refl _, Nat.le_of_lt (Nat.lt_of_le_of_lt hp hq)⟩, fun i j _ _ => Nat.le_refl _, fun i _ h => Nat.lt_irrefl _ (Nat.lt_of_le_of_lt h.1 h.2), fun i x hi => ?_⟩⟩
  match i, hi with
  | 0, hi => simp at hi; subst hi; exact ⟨[.int .i64 9], fun j u hu => by match j, hu with | 0, hu => simp at hu; subst hu; rfl | j + 1, hu => simp at hu, rfl, by unfold I64; omega⟩
  | i + 1, hi => simp at hi

def FirstD (x : FunR) (w : World) (e : Ending) (w' : World) : Prop :=
  ∃ A' c', e = .returned (.agg #[.slice none 0 0, .slice A' (firstP x).length c']) ∧ Cod.markr.Sl (Fresh w w') w' (.slice A' (firstP x).length c') (firstP x) ∧ Below w.heap.size w w'
theorem take_map {α β : Type} {f : α → β} {xs : List α} {k : Nat} (h : k < xs.length) : (xs.take (k + 1)).map f = (xs.take k).map f ++ [f xs[k]] := by
  rw [List.take_succ_eq_append_getElem h, List.map_append]; rfl

set_option maxRecDepth 100000 in
set_option maxHeartbeats 8000000 in
theorem l5First_any (F : Nat → Prop) (x : FunR) (A1 A2 A3 A4 A5 : Option Addr) (c1 c2 c3 c4 c5 : Nat) (w : World) (h : FunIn F w x A1 A2 A3 A4 A5 c1 c2 c3 c4 c5) (hF : ∀ b, F b → b < w.heap.size) (hn1 : x.args.length ≤ 900000) (hn2 : x.locals.length ≤ 900000) :
    Calls Tryd.prog 16 #[funV x A1 A2 A3 A4 A5 c1 c2 c3 c4 c5] w (FirstD x w) := by
  have HV := Lib.hid h
  unfold funV
  obtain ⟨w0, hw0⟩ : ∃ w0, w0 = ((w.alloc (.cells #[.int .i64 x.seen, .slice A1 x.args.length c1, .slice A2 x.rets.length c2, .slice A3 x.locals.length c3, .slice A4 x.takes.length c4, .slice A5 x.code.length c5] 48)).alloc (.cells #[.slice none 0 0, .slice none 0 0] 26)).alloc (.cells #[.slice none 0 0, .slice none 0 0] 26) := ⟨_, rfl⟩
  have hb0 : Below w.heap.size w w0 := by rw [hw0]; exact (((Below.refl _ _).alloc (Nat.le_refl _) _).alloc (by simp) _).alloc (by simp; omega) _
  have hs0 : w0.heap.size = w.heap.size + 3 := by rw [hw0]; simp
  have HBf := Lib.hid (show Blk w0 w.heap.size 48 #[.int .i64 x.seen, .slice A1 x.args.length c1, .slice A2 x.rets.length c2, .slice A3 x.locals.length c3, .slice A4 x.takes.length c4, .slice A5 x.code.length c5] by rw [hw0]; exact ((Blk.new _ _ _).alloc _).alloc _)
  have HB3 := Blk.of3 w (.cells #[.int .i64 x.seen, .slice A1 x.args.length c1, .slice A2 x.rets.length c2, .slice A3 x.locals.length c3, .slice A4 x.takes.length c4, .slice A5 x.code.length c5] 48) 26 26 #[.slice none 0 0, .slice none 0 0] #[.slice none 0 0, .slice none 0 0]
  rw [← hw0] at HB3
  have HR0 := Lib.hid HB3.1
  have HP0 := Lib.hid HB3.2
  have HV0 := Lib.hid (FunRd.keep (w := w) (w' := w0) (below_keeps hb0 hF) h)
  have HF0 := Lib.hid (show ∀ b, F b → b < w.heap.size from hF)
  have HE := Lib.hid hb0
  have Hs0 := Lib.hid hs0
  have Hw0 := Lib.hid hw0
  have HG0 : Hid (OGrow OCod.markr 57 (w.heap.size + 3) (w.heap.size + 3) w0 (.slice none 0 0) ((x.args.take 0).map argM)) := Lib.hid (OGrow.nil (by omega))
  obtain ⟨x0, x1, x2, x3, x4, x5⟩ := HBf.out.g6
  clear h hF hw0 hb0 hs0 HB3
  go_enter Tryd.func16, Tryd.ntmps16
  go_upto_region 2 with fail
  rw [← Hw0.out]
  clear x0 x1 x2 x3 x4 x5
  go_wp2
  go_loopw [4] (fun i wr => ∃ (k m : Nat) (A : Option Addr) (cap : Nat), k ≤ x.args.length ∧ i = .int .i64 k ∧ Hid (Blk wr (w.heap.size + 1 + 1) 26 #[.slice none 0 0, .slice A k cap]) ∧ Hid (OGrow OCod.markr 57 (w.heap.size + 3) m wr (.slice A k cap) ((x.args.take k).map argM)) ∧ Hid (Below (w.heap.size + 1 + 1) w0 wr) ∧ Hid (w.heap.size + 3 ≤ wr.heap.size)) (fun i _ => x.args.length - (intOf i).toNat)
  case atStart => exact ⟨0, _, _, _, Nat.zero_le _, rfl, HP0, HG0, Below.refl _ _, Lib.hid (by have := Hs0.out; omega)⟩
  case round =>
    obtain ⟨k, m, A, cap, hk, rfl, HP, HG, HB, HZ⟩ := hrel
    have hbf := HBf.out.below HB.out (by omega)
    obtain ⟨x0, x1, x2, x3, x4, x5⟩ := hbf.g6
    have hGm : m ≤ wr.heap.size := by obtain ⟨_, _, _, _, h, _⟩ := HG.out; exact h
    have hz := HZ.out
    by_cases hlk : k < x.args.length
    · have hbw : Below w.heap.size w wr := HE.out.trans (HB.out.mono (by omega))
      obtain ⟨b1, off1, cp1, hv1, hFb, _, hcm, ha0, hts⟩ := (FunRd.keep (w := w0) (w' := wr) (fun b hb => HB.out.block b (by have := HF0.out b hb; omega)) HV0.out).args.str_at hlk
      obtain ⟨rfl, rfl⟩ : A1 = some ⟨b1, off1, none⟩ ∧ c1 = cp1 := by simpa using hv1
      have hb1l := HF0.out b1 hFb
      unfold maxLen at hcm
      have i0 : (0 : Int) ≤ k := by omega
      have i1 : (k : Int) < x.args.length := by omega
      obtain ⟨wa, hwa⟩ : ∃ wa, wa = wr.alloc (.cells #[.string x.args[k], .slice none 0 0] 57) := ⟨_, rfl⟩
      have hbra : Below wr.heap.size wr wa := by rw [hwa]; exact (Below.refl _ _).alloc (Nat.le_refl _) _
      have hsa : wa.heap.size = wr.heap.size + 1 := by rw [hwa]; simp
      have HBa := Lib.hid (show Blk wa wr.heap.size 57 #[.string x.args[k], .slice none 0 0] by rw [hwa]; exact Blk.new _ _ _)
      obtain ⟨y0, y1, y2, y3, y4, y5⟩ := (hbf.below hbra (by omega)).g6
      have ha1 : wa.cell? ⟨b1, off1 + k, none⟩ = some (.string x.args[k]) := (hbra.cell (p := ⟨b1, off1 + k, none⟩) (by simp; omega)).trans ha0
      have Hwa := Lib.hid hwa
      clear hv1 hbw hwa hbf
      cases r : refB x.args[k]
      · -- none
        have HC := Lib.hid (l1Ref_any x.args[k] wa hts)
        rw [r] at HC
        have hfr : argM x.args[k] = ⟨x.args[k], []⟩ := by unfold argM; rw [r]; rfl
        have Hfr := Lib.hid hfr
        obtain ⟨wq, hwq⟩ : ∃ wq, wq = wa := ⟨_, rfl⟩
        have hsq : wq.heap.size = wr.heap.size + 1 := by rw [hwq]; exact hsa
        have hBq : Blk wq wr.heap.size 57 #[.string x.args[k], .slice none 0 0] := by rw [hwq]; exact HBa.out
        have hkq : ∀ b, b < wr.heap.size → wq.heap[b]? = wr.heap[b]? := fun b hb => by rw [hwq]; exact hbra.block b hb
        have hbq : Below wr.heap.size wr wq := by rw [hwq]; exact hbra
        have hOn : Own OCod.i64 3 wr.heap.size wq.heap.size wq (.slice none 0 0) [] := own_none
        have hGq : OGrow OCod.markr 57 (w.heap.size + 3) m wq (.slice A k cap) ((x.args.take k).map argM) := HG.out.keep hbq.size fun b g1 g2 => hkq b (by have := hGm; omega)
        have hPq : Blk wq (w.heap.size + 1 + 1) 26 #[.slice none 0 0, .slice A k cap] := (hkq _ (by omega)).trans HP.out
        obtain ⟨g, cap', w', happ, hg, hb'⟩ := push_mark hGq (by simp; omega) x.args[k] hts none 0 0 [] wr.heap.size wq.heap.size (by omega) (by omega) (Nat.le_refl _) hOn (by omega)
        have hlen : ((x.args.take k).map argM).length = k := by simp; omega
        rw [hlen] at happ hg
        rw [← Hfr.out, ← take_map hlk] at hg
        have hP' : Blk w' (w.heap.size + 1 + 1) 26 #[.slice none 0 0, .slice A k cap] := (hb'.block _ (by omega)).trans hPq
        have HGn := Lib.hid (hg.keep (w' := w'.setCell ⟨w.heap.size + 1 + 1, 1, none⟩ (.slice (some ⟨g, 0, none⟩) (k + 1) cap')) (by simp [World.setCell]) fun b g1 g2 => Below.heap_setCell _ _ _ _ (by simp; omega))
        have HPn := Lib.hid (hP'.set_ 1 (.slice (some ⟨g, 0, none⟩) (k + 1) cap'))
        have HBn := Lib.hid ((((HB.out.trans (hbq.mono (by omega))).trans (hb'.mono (by omega))).setCell (p := ⟨w.heap.size + 1 + 1, 1, none⟩) (by simp) (.slice (some ⟨g, 0, none⟩) (k + 1) cap')))
        have HZn := Lib.hid (show w.heap.size + 3 ≤ (w'.setCell ⟨w.heap.size + 1 + 1, 1, none⟩ (.slice (some ⟨g, 0, none⟩) (k + 1) cap')).heap.size by rw [size_setCell]; have := hb'.size; omega)
        obtain ⟨p0, p1⟩ := hPq.g2
        obtain ⟨q0, q1⟩ := hBq.g2
        obtain ⟨s0, s1⟩ := hP'.g2
        obtain ⟨t0, t1⟩ := hP'.h2
        obtain ⟨d0, d1⟩ := HBa.out.g2
        obtain ⟨f0, f1⟩ := HBa.out.h2
        have Hwq := Lib.hid hwq
        have hlq : w.heap.size + 1 + 1 < wq.heap.size := by omega
        have hlq2 : wr.heap.size < wq.heap.size := by omega
        clear r hfr hsq hBq hkq hbq hOn hGq hPq hg hb' hlen hP' hwq
        go_upto_region 6 with fail
        rw [← Hwa.out]
        go_upto_region 8 with (go_at_call 37; with_reducible refine HC.out.mono ?_; rintro e w2 ⟨rfl, rfl⟩)
        rw [← Hwq.out]
        go_wp2_with (at_builtin; refine wpList_append_run rfl _ _ _ rfl rfl rfl happ ?_)
        go_roundw
        case rel => exact ⟨k + 1, w'.heap.size, _, cap', by omega, by go_num, HPn, HGn, HBn, HZn⟩
        case measure => simp [intOf]; omega
      · -- a reference
        have HC := Lib.hid (l1Ref_any x.args[k] wa hts)
        rw [r] at HC
        have hfr : argM x.args[k] = ⟨x.args[k], [9]⟩ := by unfold argM; rw [r]; rfl
        have Hfr := Lib.hid hfr
        obtain ⟨wq, hwq⟩ : ∃ wq, wq = (wa.setCell ⟨wr.heap.size, 1, none⟩ (.slice (some ⟨wr.heap.size + 1, 0, none⟩) 1 1)).alloc (.cells #[.int .i64 9] 3) := ⟨_, rfl⟩
        have hsq : wq.heap.size = wr.heap.size + 2 := by rw [hwq]; simp [World.setCell, hsa]
        have hBn : Blk wq (wr.heap.size + 1) 3 #[.int .i64 9] := by
          rw [hwq]; have := Blk.new (wa.setCell ⟨wr.heap.size, 1, none⟩ (.slice (some ⟨wr.heap.size + 1, 0, none⟩) 1 1)) 3 #[.int .i64 9]; rw [size_setCell, hsa] at this; exact this
        have hBq : Blk wq wr.heap.size 57 #[.string x.args[k], .slice (some ⟨wr.heap.size + 1, 0, none⟩) 1 1] := by
          rw [hwq]; exact (HBa.out.set_ 1 _).alloc _
        have hkq : ∀ b, b < wr.heap.size → wq.heap[b]? = wr.heap[b]? := fun b hb => by
          rw [hwq, Below.heap_alloc _ _ _ (by rw [size_setCell]; omega), Below.heap_setCell _ _ _ _ (by simp; omega)]; exact hbra.block b hb
        have hbq : Below wr.heap.size wr wq := by rw [hwq]; exact ((hbra.setCell (by simp) _).alloc (by rw [size_setCell]; exact hbra.size) _)
        have hOn := own_nine wq hBn (p := wr.heap.size) (q := wq.heap.size) (by omega) (by omega)
        have hGq : OGrow OCod.markr 57 (w.heap.size + 3) m wq (.slice A k cap) ((x.args.take k).map argM) := HG.out.keep hbq.size fun b g1 g2 => hkq b (by have := hGm; omega)
        have hPq : Blk wq (w.heap.size + 1 + 1) 26 #[.slice none 0 0, .slice A k cap] := (hkq _ (by omega)).trans HP.out
        obtain ⟨g, cap', w', happ, hg, hb'⟩ := push_mark hGq (by simp; omega) x.args[k] hts (some ⟨wr.heap.size + 1, 0, none⟩) 1 1 [9] wr.heap.size wq.heap.size (by omega) (by omega) (Nat.le_refl _) hOn (by omega)
        have hlen : ((x.args.take k).map argM).length = k := by simp; omega
        rw [hlen] at happ hg
        rw [← Hfr.out, ← take_map hlk] at hg
        have hP' : Blk w' (w.heap.size + 1 + 1) 26 #[.slice none 0 0, .slice A k cap] := (hb'.block _ (by omega)).trans hPq
        have HGn := Lib.hid (hg.keep (w' := w'.setCell ⟨w.heap.size + 1 + 1, 1, none⟩ (.slice (some ⟨g, 0, none⟩) (k + 1) cap')) (by simp [World.setCell]) fun b g1 g2 => Below.heap_setCell _ _ _ _ (by simp; omega))
        have HPn := Lib.hid (hP'.set_ 1 (.slice (some ⟨g, 0, none⟩) (k + 1) cap'))
        have HBn := Lib.hid ((((HB.out.trans (hbq.mono (by omega))).trans (hb'.mono (by omega))).setCell (p := ⟨w.heap.size + 1 + 1, 1, none⟩) (by simp) (.slice (some ⟨g, 0, none⟩) (k + 1) cap')))
        have HZn := Lib.hid (show w.heap.size + 3 ≤ (w'.setCell ⟨w.heap.size + 1 + 1, 1, none⟩ (.slice (some ⟨g, 0, none⟩) (k + 1) cap')).heap.size by rw [size_setCell]; have := hb'.size; omega)
        obtain ⟨p0, p1⟩ := hPq.g2
        obtain ⟨q0, q1⟩ := hBq.g2
        obtain ⟨s0, s1⟩ := hP'.g2
        obtain ⟨t0, t1⟩ := hP'.h2
        obtain ⟨d0, d1⟩ := HBa.out.g2
        obtain ⟨f0, f1⟩ := HBa.out.h2
        have Hwq := Lib.hid hwq
        have hlq : w.heap.size + 1 + 1 < wq.heap.size := by omega
        have hlq2 : wr.heap.size < wq.heap.size := by omega
        clear r hfr hsq hBq hkq hbq hOn hGq hPq hg hb' hlen hP' hwq hBn
        go_upto_region 6 with fail
        rw [← Hwa.out]
        go_upto_region 8 with (go_at_call 37; with_reducible refine HC.out.mono ?_; rintro e w2 ⟨rfl, rfl⟩)
        rw [← Hwq.out]
        go_wp2_with (at_builtin; refine wpList_append_run rfl _ _ _ rfl rfl rfl happ ?_)
        go_roundw
        case rel => exact ⟨k + 1, w'.heap.size, _, cap', by omega, by go_num, HPn, HGn, HBn, HZn⟩
        case measure => simp [intOf]; omega
    · obtain rfl : k = x.args.length := by omega
      have HG2 : Hid (OGrow OCod.markr 57 (w.heap.size + 3) m wr (.slice A (x.args.length + 0) cap) (x.args.map argM ++ (x.locals.take 0).map locM)) := Lib.hid (by have := HG.out; rw [List.take_length] at this; simpa using this)
      have HP2 : Hid (Blk wr (w.heap.size + 1 + 1) 26 #[.slice none 0 0, .slice A (x.args.length + 0) cap]) := HP
      have j2 : ¬ ((x.args.length : Nat) : Int) < x.args.length := by omega
      clear hbf
      go_wp2
      clear x0 x1 x2 x3 x4 x5
      go_loopw [6] (fun i wr => ∃ (k m : Nat) (A : Option Addr) (cap : Nat), k ≤ x.locals.length ∧ i = .int .i64 k ∧ Hid (Blk wr (w.heap.size + 1 + 1) 26 #[.slice none 0 0, .slice A (x.args.length + k) cap]) ∧ Hid (OGrow OCod.markr 57 (w.heap.size + 3) m wr (.slice A (x.args.length + k) cap) (x.args.map argM ++ (x.locals.take k).map locM)) ∧ Hid (Below (w.heap.size + 1 + 1) w0 wr) ∧ Hid (w.heap.size + 3 ≤ wr.heap.size)) (fun i _ => x.locals.length - (intOf i).toNat)
      case atStart => exact ⟨0, m, A, cap, Nat.zero_le _, rfl, HP2, HG2, HB, HZ⟩
      case round =>
        obtain ⟨k, m', B, cap2, hk, rfl, HPr, HGr, HBr, HZr⟩ := hrel
        have hbf := HBf.out.below HBr.out (by omega)
        obtain ⟨x0, x1, x2, x3, x4, x5⟩ := hbf.g6
        obtain ⟨p0, p1⟩ := HPr.out.g2
        have hGm2 : m' ≤ wr.heap.size := by obtain ⟨_, _, _, _, h, _⟩ := HGr.out; exact h
        have hz2 := HZr.out
        by_cases hlk : k < x.locals.length
        · obtain ⟨g, cap', w', happ, hg, hb'⟩ := push_mark HGr.out (by simp; omega) ⟨#[]⟩ (by decide) none 0 0 [] wr.heap.size wr.heap.size (by omega) (Nat.le_refl _) (Nat.le_refl _) own_none (by omega)
          have hlen : (x.args.map argM ++ (x.locals.take k).map locM).length = x.args.length + k := by simp; omega
          rw [hlen] at happ hg
          rw [show (⟨⟨#[]⟩, []⟩ : MarkR) = locM x.locals[k] from rfl, List.append_assoc, ← take_map hlk] at hg
          have hP' : Blk w' (w.heap.size + 1 + 1) 26 #[.slice none 0 0, .slice B (x.args.length + k) cap2] := (hb'.block _ (by omega)).trans HPr.out
          have HGn := Lib.hid (hg.keep (w' := w'.setCell ⟨w.heap.size + 1 + 1, 1, none⟩ (.slice (some ⟨g, 0, none⟩) (x.args.length + k + 1) cap')) (by simp [World.setCell]) fun b g1 g2 => Below.heap_setCell _ _ _ _ (by simp; omega))
          have HPn := Lib.hid (hP'.set_ 1 (.slice (some ⟨g, 0, none⟩) (x.args.length + k + 1) cap'))
          have HBn := Lib.hid (((HBr.out.trans (hb'.mono (by omega))).setCell (p := ⟨w.heap.size + 1 + 1, 1, none⟩) (by simp) (.slice (some ⟨g, 0, none⟩) (x.args.length + k + 1) cap')))
          have HZn := Lib.hid (show w.heap.size + 3 ≤ (w'.setCell ⟨w.heap.size + 1 + 1, 1, none⟩ (.slice (some ⟨g, 0, none⟩) (x.args.length + k + 1) cap')).heap.size by rw [size_setCell]; have := hb'.size; omega)
          obtain ⟨s0, s1⟩ := hP'.g2
          obtain ⟨t0, t1⟩ := hP'.h2
          have i0 : (0 : Int) ≤ k := by omega
          have i1 : (k : Int) < x.locals.length := by omega
          have hlq : w.heap.size + 1 + 1 < wr.heap.size := by omega
          clear hg hb' hlen hP' hbf
          go_wp2_with (at_builtin; refine wpList_append_run rfl _ _ _ rfl rfl rfl happ ?_)
          go_roundw
          case rel => exact ⟨k + 1, w'.heap.size, _, cap', by omega, by go_num, HPn, HGn, HBn, HZn⟩
          case measure => simp [intOf]; omega
        · obtain rfl : k = x.locals.length := by omega
          have hO : Own OCod.markr 57 (w.heap.size + 3) m' wr (.slice B (x.args.length + x.locals.length) cap2) (firstP x) := by
            have := HGr.out.own; rw [List.take_length] at this; exact this
          have hR := HR0.out.below HBr.out (by omega)
          obtain ⟨r0, r1⟩ := hR.g2
          obtain ⟨f0, f1⟩ := hR.h2
          obtain ⟨wE, hwE⟩ : ∃ wE, wE = (wr.setCell ⟨w.heap.size + 1, 0, none⟩ (.slice none 0 0)).setCell ⟨w.heap.size + 1, 1, none⟩ (.slice B (x.args.length + x.locals.length) cap2) := ⟨_, rfl⟩
          have HRE := Lib.hid (show Blk wE (w.heap.size + 1) 26 #[.slice none 0 0, .slice B (x.args.length + x.locals.length) cap2] by rw [hwE]; exact (hR.set_ 0 _).set_ 1 _)
          have hkE : ∀ b, b ≠ w.heap.size + 1 → wE.heap[b]? = wr.heap[b]? := fun b h1 => by rw [hwE, Below.heap_setCell _ _ _ _ h1, Below.heap_setCell _ _ _ _ h1]
          have hsE : wE.heap.size = wr.heap.size := by rw [hwE]; simp [World.setCell]
          have HQ := Lib.hid (show FirstD x w (.returned (.agg #[.slice none 0 0, .slice B (x.args.length + x.locals.length) cap2])) wE from
            ⟨B, cap2, by rw [firstP_len], by rw [firstP_len]; exact ((hO.keep (w' := wE) fun b g1 g2 => hkE b (by omega)).sl).mono fun b hb => ⟨by have := hb.1; omega, by have := hb.2; omega⟩,
              by rw [hwE]; exact ((HE.out.trans (HBr.out.mono (by omega))).setCell (by simp) _).setCell (by simp) _⟩)
          have HwE := Lib.hid hwE
          have j3 : ¬ ((x.locals.length : Nat) : Int) < x.locals.length := by omega
          clear hwE hkE hR hO hbf
          go_wp2
          rw [← HwE.out]
          obtain ⟨q0, q1⟩ := HRE.out.g2
          exact bodyPost_ret (v := .agg #[.slice none 0 0, .slice B (x.args.length + x.locals.length) cap2]) (by simp [results, Tryd.results16, go_sem, q0, q1]) rfl HQ.out
end Go.Proofs.YtmomdflfjcboiaaDoor

namespace Go.Proofs.YtmomdflfjcboiaaDoor
open Go.RowKit

theorem modsB_all {ks : Ks} {n : Nat} : ∀ (xs : List ModR) (k : Nat), modsB ks n k xs = true → ∀ (j : Nat) (x : ModR), xs[j]? = some x → modB ks n (k + j) x = true
  | [], k, _, j, x, hx => by simp at hx
  | y :: r, k, h, 0, x, hx => by
    simp only [modsB, Bool.and_eq_true] at h
    simp at hx
    subst hx
    exact h.1
  | y :: r, k, h, j + 1, x, hx => by
    simp only [modsB, Bool.and_eq_true] at h
    have := modsB_all r (k + 1) h.2 j x (by simpa using hx)
    rw [show k + 1 + j = k + (j + 1) by omega] at this
    exact this
/-- What a function of a shelf with the shape has: its place, and few places. -/
theorem shape_fun {xs : List ModR} {m f : Int} {y : FunR} (h : shapeB xs = true) (hf : fAt xs m f = some y) : ∃ x, xs[m.toNat]? = some x ∧ funB (kindsOf xs) m.toNat x.records.length y = true := by
  unfold fAt at hf
  split at hf
  · obtain ⟨x, hx, hy⟩ := Option.bind_eq_some_iff.1 hf
    unfold shapeB at h
    rw [Bool.and_eq_true] at h
    have hm := modsB_all xs 0 h.2 m.toNat x hx
    rw [Nat.zero_add] at hm
    unfold modB at hm
    rw [Bool.and_eq_true, List.all_eq_true] at hm
    exact ⟨x, hx, hm.2 y (List.mem_of_getElem? hy)⟩
  · cases hf
theorem fun_few {ks : Ks} {m : Nat} {n : Int} {y : FunR} (h : funB ks m n y = true) : y.args.length ≤ 3 ∧ y.args.length + y.locals.length ≤ 6 := by
  have hh : headN y = true := by
    cases hh : headN y with
    | true => rfl
    | false => rw [← funB_head hh] at h; exact h
  unfold headN at hh
  simp only [Bool.and_eq_true, decide_eq_true_eq] at hh
  omega
/-- The places at the first instruction, if there is a function. -/
def firstO (xs : List ModR) (m f : Int) : Option (List MarkR) := if shapeB xs then (fAt xs m f).map firstP else none
def SFirstD (o : Option (List MarkR)) (w : World) (e : Ending) (w' : World) : Prop :=
  ∃ A' c', e = .returned (.tuple #[.agg #[.slice none 0 0, .slice A' (o.getD []).length c'], .bool o.isSome]) ∧ Cod.markr.Sl (Fresh w w') w' (.slice A' (o.getD []).length c') (o.getD []) ∧ Below w.heap.size w w'

set_option maxRecDepth 100000 in
set_option maxHeartbeats 4000000 in
theorem specShapeFirst_any (F : Nat → Prop) (v : Value) (xs : List ModR) (m f : Int) (w : World) (h : Cod.modr.Sl F w v xs) (hF : ∀ b, F b → b < w.heap.size) (hn : xs.length ≤ 2000000) (hsm : ∀ x ∈ xs, SmolModr x) :
    Calls Tryd.prog 5 #[v, .int .i64 m, .int .i64 f] w (SFirstD (firstO xs m f) w) := by
  have HS := Lib.hid h
  have HF := Lib.hid hF
  obtain ⟨A, cap, rfl, hlc, hcm, _⟩ := h
  unfold maxLen at hcm
  obtain ⟨w0, hw0⟩ : ∃ w0, w0 = w.alloc (.cells #[.slice none 0 0, .slice none 0 0] 26) := ⟨_, rfl⟩
  have hb0 : Below w.heap.size w w0 := by rw [hw0]; exact (Below.refl _ _).alloc (Nat.le_refl _) _
  have HR0 := Lib.hid (show Blk w0 w.heap.size 26 #[.slice none 0 0, .slice none 0 0] by rw [hw0]; exact Blk.new _ _ _)
  have HF0 := Lib.hid (show ∀ b, F b → b < w0.heap.size from fun b hb => Nat.lt_of_lt_of_le (hF b hb) hb0.size)
  have HS0 := Lib.hid (HS.out.keep (below_keeps hb0 hF))
  have HC := Lib.hid (specShelfShape_any F _ xs w0 HS0.out HF0.out hn hsm)
  have HE := Lib.hid hb0
  have Hw0 := Lib.hid hw0
  have HSm := Lib.hid hsm
  clear hF hw0 hb0 hsm
  cases q : shapeB xs with
  | false =>
    rw [q] at HC
    have HO := Lib.hid (show firstO xs m f = none by unfold firstO; rw [q]; rfl)
    rw [HO.out]
    clear q
    go_enter Tryd.func5, Tryd.ntmps5
    go_wp2_with fail
    rw [← Hw0.out]
    refine HC.out.mono ?_
    rintro e w1 ⟨rfl, hb1⟩
    have hR := HR0.out.below hb1 HR0.out.lt
    obtain ⟨r0, r1⟩ := hR.g2
    obtain ⟨f0, f1⟩ := hR.h2
    obtain ⟨wE, hwE⟩ : ∃ wE, wE = (w1.setCell ⟨w.heap.size, 0, none⟩ (.slice none 0 0)).setCell ⟨w.heap.size, 1, none⟩ (.slice none 0 0) := ⟨_, rfl⟩
    have HRE := Lib.hid (show Blk wE w.heap.size 26 #[.slice none 0 0, .slice none 0 0] by rw [hwE]; exact (hR.set_ 0 _).set_ 1 _)
    have HQ := Lib.hid (show SFirstD none w (.returned (.tuple #[.agg #[.slice none 0 0, .slice none 0 0], .bool false])) wE from
      ⟨none, 0, rfl, Cod.Sl.nil_, by rw [hwE]; exact ((HE.out.trans (hb1.mono HE.out.size)).setCell (by simp) _).setCell (by simp) _⟩)
    have HwE := Lib.hid hwE
    clear hwE hR hb1 HC
    go_wp2
    rw [← HwE.out]
    obtain ⟨q0, q1⟩ := HRE.out.g2
    exact bodyPost_ret (v := .tuple #[.agg #[.slice none 0 0, .slice none 0 0], .bool false]) (by simp [results, Tryd.results5, go_sem, q0, q1]) rfl HQ.out
  | true =>
    rw [q] at HC
    cases hat : fAt xs m f with
    | none =>
      have HO := Lib.hid (show firstO xs m f = none by unfold firstO; rw [q, hat]; rfl)
      rw [HO.out]
      have Hat := Lib.hid hat
      clear q hat
      go_enter Tryd.func5, Tryd.ntmps5
      go_wp2_with fail
      rw [← Hw0.out]
      refine HC.out.mono ?_
      rintro e w1 ⟨rfl, hb1⟩
      have HH := Lib.hid (l4Has_any F _ xs m f w1 (HS0.out.keep (below_keeps hb1 HF0.out)) HSm.out)
      rw [Hat.out] at HH
      have hR := HR0.out.below hb1 HR0.out.lt
      obtain ⟨r0, r1⟩ := hR.g2
      obtain ⟨f0, f1⟩ := hR.h2
      obtain ⟨wE, hwE⟩ : ∃ wE, wE = (w1.setCell ⟨w.heap.size, 0, none⟩ (.slice none 0 0)).setCell ⟨w.heap.size, 1, none⟩ (.slice none 0 0) := ⟨_, rfl⟩
      have HRE := Lib.hid (show Blk wE w.heap.size 26 #[.slice none 0 0, .slice none 0 0] by rw [hwE]; exact (hR.set_ 0 _).set_ 1 _)
      have HQ := Lib.hid (show SFirstD none w (.returned (.tuple #[.agg #[.slice none 0 0, .slice none 0 0], .bool false])) wE from
        ⟨none, 0, rfl, Cod.Sl.nil_, by rw [hwE]; exact ((HE.out.trans (hb1.mono HE.out.size)).setCell (by simp) _).setCell (by simp) _⟩)
      have HwE := Lib.hid hwE
      clear hwE hR hb1 HC
      go_wp2_with (go_at_call 15; with_reducible refine HH.out.mono ?_; rintro e w' ⟨rfl, rfl⟩)
      rw [← HwE.out]
      obtain ⟨q0, q1⟩ := HRE.out.g2
      exact bodyPost_ret (v := .tuple #[.agg #[.slice none 0 0, .slice none 0 0], .bool false]) (by simp [results, Tryd.results5, go_sem, q0, q1]) rfl HQ.out
    | some y =>
      have HO := Lib.hid (show firstO xs m f = some (firstP y) by unfold firstO; rw [q, hat]; rfl)
      rw [HO.out]
      obtain ⟨xm, hxm, hfb⟩ := shape_fun q hat
      have hfew := fun_few hfb
      have Hat := Lib.hid hat
      have hyes : 0 ≤ m ∧ 0 ≤ f ∧ ∃ h : m.toNat < xs.length, f.toNat < xs[m.toNat].funcs.length := by
        rcases Classical.em (0 ≤ m ∧ 0 ≤ f ∧ ∃ h : m.toNat < xs.length, f.toNat < xs[m.toNat].funcs.length) with h | h
        · exact h
        · rw [fAt_no h] at hat; cases hat
      obtain ⟨hm0, hf0, hml, hfl⟩ := hyes
      obtain ⟨mn, rfl⟩ : ∃ mn : Nat, m = mn := ⟨m.toNat, by omega⟩
      obtain ⟨fn, rfl⟩ : ∃ fn : Nat, f = fn := ⟨f.toNat, by omega⟩
      simp only [Int.toNat_natCast] at hml hfl
      rw [fAt_yes hml hfl] at hat
      simp only [Option.some.injEq] at hat
      have Hy := Lib.hid hat
      have hfe := hfew.2
      clear q hat hxm hfb hfew
      go_enter Tryd.func5, Tryd.ntmps5
      go_wp2_with fail
      rw [← Hw0.out]
      refine HC.out.mono ?_
      rintro e w1 ⟨rfl, hb1⟩
      have HS1 := Lib.hid (HS0.out.keep (below_keeps hb1 HF0.out))
      have HF1 := Lib.hid (show ∀ b, F b → b < w1.heap.size from fun b hb => Nat.lt_of_lt_of_le (HF0.out b hb) hb1.size)
      have HH := Lib.hid (l4Has_any F _ xs (mn : Int) (fn : Int) w1 HS1.out HSm.out)
      rw [Hat.out] at HH
      have HR1 := Lib.hid (HR0.out.below hb1 HR0.out.lt)
      have HE1 := Lib.hid (HE.out.trans (hb1.mono HE.out.size))
      obtain ⟨b, off, cap', D0, e0, D1, e1, D2, e2, hv, hFb, _, _, k0, k1, k2, hd⟩ := HS1.out.modr_at hml
      obtain ⟨rfl, rfl⟩ : A = some ⟨b, off, none⟩ ∧ cap = cap' := by simpa using hv
      obtain ⟨bb, oo, cp, B1, d1, B2, d2, B3, d3, B4, d4, B5, d5, hv2, hFbb, hl2, hcp, q0, q1, q2, q3, q4, q5, hfd⟩ := hd.funcs.funr_at hfl
      obtain ⟨rfl, rfl⟩ : D1 = some ⟨bb, oo, none⟩ ∧ e1 = cp := by simpa using hv2
      unfold maxLen at hcp
      rw [Hy.out] at q0 q1 q2 q3 q4 q5 hfd
      have HCf := Lib.hid (l5First_any F y B1 B2 B3 B4 B5 d1 d2 d3 d4 d5 w1 hfd HF1.out (by omega) (by omega))
      unfold funV at HCf
      have i0 : (0 : Int) ≤ mn := by omega
      have i1 : (mn : Int) < xs.length := by omega
      have i2 : (0 : Int) ≤ fn := by omega
      have i3 : (fn : Int) < xs[mn].funcs.length := by omega
      clear hv hv2 hd hfd hb1 HC
      go_wp2_with (first | (go_at_call 15; with_reducible refine HH.out.mono ?_; rintro e w' ⟨rfl, rfl⟩))
      go_at_call 16
      refine HCf.out.mono ?_
      rintro e w2 ⟨A', c', rfl, hS2, hb2⟩
      have hR := HR1.out.below hb2 HR1.out.lt
      obtain ⟨r0, r1⟩ := hR.g2
      obtain ⟨f0, f1⟩ := hR.h2
      obtain ⟨wE, hwE⟩ : ∃ wE, wE = (w2.setCell ⟨w.heap.size, 0, none⟩ (.slice none 0 0)).setCell ⟨w.heap.size, 1, none⟩ (.slice A' (firstP y).length c') := ⟨_, rfl⟩
      have HRE := Lib.hid (show Blk wE w.heap.size 26 #[.slice none 0 0, .slice A' (firstP y).length c'] by rw [hwE]; exact (hR.set_ 0 _).set_ 1 _)
      have hkE : ∀ b, b ≠ w.heap.size → wE.heap[b]? = w2.heap[b]? := fun b h1 => by rw [hwE, Below.heap_setCell _ _ _ _ h1, Below.heap_setCell _ _ _ _ h1]
      have hsE : wE.heap.size = w2.heap.size := by rw [hwE]; simp [World.setCell]
      have hz1 := HE1.out.size
      have hl1 := HR1.out.lt
      have HQ := Lib.hid (show SFirstD (some (firstP y)) w (.returned (.tuple #[.agg #[.slice none 0 0, .slice A' (firstP y).length c'], .bool true])) wE from
        ⟨A', c', rfl, (hS2.keep fun b hb => hkE b (by have := hb.1; omega)).mono fun b hb => ⟨by have := hb.1; omega, by have := hb.2; omega⟩, by rw [hwE]; exact ((HE1.out.trans (hb2.mono HE1.out.size)).setCell (by simp) _).setCell (by simp) _⟩)
      have HwE := Lib.hid hwE
      clear hwE hR hkE hS2 hb2 HCf
      go_wp2
      rw [← HwE.out]
      obtain ⟨z0, z1⟩ := HRE.out.g2
      exact bodyPost_ret (v := .tuple #[.agg #[.slice none 0 0, .slice A' (firstP y).length c'], .bool true]) (by simp [results, Tryd.results5, go_sem, z0, z1]) rfl HQ.out
end Go.Proofs.YtmomdflfjcboiaaDoor
