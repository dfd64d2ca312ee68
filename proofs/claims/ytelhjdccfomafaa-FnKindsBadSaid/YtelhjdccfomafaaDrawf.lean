/- What is drawn: kinds, the first module's row being the call's own, and read by no other module. -/
import Derived.Test.YtelhjdccfomafaaDrawe
namespace Go.Proofs.Ytelhjdccfomafaa
open Go.RowKit

/-- The first module's row is the call's own, as it was in a world w0, and no other module is read through what lay there then. -/
def First (W a : Nat) (ks : Ks) (Hm : Nat) (w : World) : Prop :=
  ∀ rs0 rest, ks = rs0 :: rest → ∃ (a0 c0 L0 : Nat) (w0 : World), W ≤ L0 ∧ w0.heap.size ≤ Hm ∧ w0.heap.size ≤ w.heap.size ∧ (a < L0 ∨ w0.heap.size ≤ a) ∧ a < w.heap.size ∧ W ≤ a ∧
    w.cell? ⟨a, 0, none⟩ = some (.slice (some ⟨a0, 0, none⟩) rs0.length c0) ∧ OwnRow Cod.rec_ 47 L0 L0 w0 (.slice (some ⟨a0, 0, none⟩) rs0.length c0) rs0 ∧ (∀ b, L0 ≤ b → b < w0.heap.size → w.heap[b]? = w0.heap[b]?) ∧
    ∀ i x, rest[i]? = some x → ∃ v, w.cell? ⟨a, i + 1, none⟩ = some v ∧ Cod.rec_.Sl (fun b => w0.heap.size ≤ b ∧ b < w.heap.size ∧ b ≠ a) w v x
theorem First.nil {W a Hm : Nat} {w : World} : First W a [] Hm w := fun _ _ h => by cases h
theorem First.up {W a Hm Hm' : Nat} {ks : Ks} {w : World} (h : First W a ks Hm w) (hm : Hm ≤ Hm') : First W a ks Hm' w := by
  intro rs0 rest e
  obtain ⟨a0, c0, L0, w0, h1, h2, h3⟩ := h rs0 rest e
  exact ⟨a0, c0, L0, w0, h1, by omega, h3⟩
theorem First.keep {W a Hm : Nat} {ks : Ks} {w w' : World} (h : First W a ks Hm w) (hs : w.heap.size ≤ w'.heap.size) (hk : ∀ i, W ≤ i → i < w.heap.size → w'.heap[i]? = w.heap[i]?) : First W a ks Hm w' := by
  intro rs0 rest e
  obtain ⟨a0, c0, L0, w0, h1, h2, h3, h4, h5, h6, h7, h8, h9, h10⟩ := h rs0 rest e
  refine ⟨a0, c0, L0, w0, h1, h2, by omega, h4, by omega, h6, ?_, h8, fun b g1 g2 => (hk b (by omega) (by omega)).trans (h9 b g1 g2), fun i x hx => ?_⟩
  · rw [World.cell?_of_block (a := ⟨a, 0, none⟩) (hk a h6 h5)]; exact h7
  · obtain ⟨v, g1, g2⟩ := h10 i x hx
    have h08 := h8.ge
    refine ⟨v, ?_, (g2.keep fun b hb => hk b (by omega) hb.2.1).mono fun b hb => ⟨hb.1, by omega, hb.2.2⟩⟩
    rw [World.cell?_of_block (a := ⟨a, i + 1, none⟩) (hk a h6 h5)]; exact g1

/-- The cells of a row of slices, in which the values themselves are read. -/
def Cod.cellv : Cod (Value × List Rec) where
  size := 1
  rd F w cs x := cs = [x.1] ∧ Cod.rec_.Sl F w x.1 x.2
  len h := by rw [h.1]; rfl
  keep hk h := ⟨h.1, h.2.keep hk⟩
  mono hg h := ⟨h.1, h.2.mono hg⟩
theorem own_cellv {e : TypeId} {base cb : Nat} {w : World} {v : Value} {ks : Ks} (h : OwnRow Cod.recs e base cb w v ks) : ∃ kvs : List (Value × List Rec), kvs.map Prod.snd = ks ∧ OwnRow Cod.cellv e base cb w v kvs := by
  obtain ⟨us, ho, h1, hx⟩ := h
  have hul : us.length = ks.length := by have : us.length = ks.length * 1 := ho.1; omega
  have hl : (us.zip ks).length = ks.length := by rw [List.length_zip]; omega
  refine ⟨us.zip ks, List.map_snd_zip (by omega), us, by rw [hl]; exact ho, h1, fun i x hi => ?_⟩
  obtain ⟨hu, hk⟩ : us[i]? = some x.1 ∧ ks[i]? = some x.2 := by
    rw [List.getElem?_zip_eq_some] at hi
    exact hi
  obtain ⟨cs, hcs, v', rfl, hrd⟩ := hx i x.2 hk
  have hv : us[i * 1 + 0]? = some v' := hcs 0 v' rfl
  rw [Nat.mul_one, Nat.add_zero, hu] at hv
  obtain rfl : x.1 = v' := Option.some.inj hv
  exact ⟨[x.1], hcs, rfl, hrd⟩
theorem cellv_at {e : TypeId} {base cb : Nat} {w : World} {a n cap : Nat} {kvs : List (Value × List Rec)} (h : OwnRow Cod.cellv e base cb w (.slice (some ⟨a, 0, none⟩) n cap) kvs) (hcb : cb ≤ base) {i : Nat} {y : Value × List Rec} (hi : kvs[i]? = some y) :
    w.cell? ⟨a, i, none⟩ = some y.1 ∧ Cod.rec_.Sl (fun b => cb ≤ b ∧ b < w.heap.size ∧ b ≠ a) w y.1 y.2 := by
  obtain ⟨us, ho, h1, hx⟩ := h
  obtain ⟨cs, hcs, hc, hrd⟩ := hx i y hi
  rcases ho.2 with ⟨hv, _⟩ | ⟨g, cap', cur, hv, hg, hh, hn, hcp, hsz, ht⟩
  · cases hv
  · obtain ⟨rfl, _⟩ : a = g ∧ n = kvs.length := by simp only [Value.slice.injEq, Option.some.injEq, Addr.mk.injEq] at hv; exact ⟨hv.1.1, hv.2.1⟩
    have hB : Blk w a e cur := hh
    subst hc
    have h2 : us[i * 1 + 0]? = some y.1 := hcs 0 y.1 rfl
    rw [Nat.mul_one, Nat.add_zero, ← ht, List.getElem?_take] at h2
    split at h2
    · exact ⟨by rw [hB.cell]; simpa using h2, hrd.mono fun b hb => ⟨hb.1, hb.2.1, fun e => hb.2.2 (by rw [e]; rfl)⟩⟩
    · cases h2
theorem First.push {W a L a2 cap2 cap g7 c7 : Nat} {ks : Ks} {rs : List Rec} {wr w7 : World} (h : First W a ks L wr) (ho : OwnRow Cod.recs 44 W W wr (.slice (some ⟨a, 0, none⟩) ks.length cap) ks) (hk : ks.length ≤ 1000) (hW : W ≤ wr.heap.size) (hWL : W ≤ L)
    (hr : OwnRow Cod.rec_ 47 L L wr (.slice (some ⟨a2, 0, none⟩) rs.length cap2) rs) (hlt : a < L)
    (happ : (Builtin.append_ #[23, 23] 23 #[.slice (some ⟨a, 0, none⟩) ks.length cap, .slice (some ⟨wr.heap.size, 0, none⟩) 1 1]).run Try.prog (wr.alloc (.cells #[.slice (some ⟨a2, 0, none⟩) rs.length cap2] 44)) = .ok (.slice (some ⟨g7, 0, none⟩) (ks.length + 1) c7) w7) :
    First W g7 (ks ++ [rs]) w7.heap.size w7 := by
  have hage := ho.ge
  have h2ge := hr.ge
  obtain ⟨kvs, hm, hv⟩ := own_cellv ho
  have hl : kvs.length = ks.length := by rw [← hm, List.length_map]
  rw [← hl] at happ hv
  obtain ⟨g, c, w', hrun, ho', hgr, hge, hat⟩ := OwnRow.push (P := Try.prog) 23 23 _ 24 Try.underlying23 info_recs rfl (by decide) (by omega) hv (by omega) (Nat.le_refl _) hW 1 [.slice (some ⟨a2, 0, none⟩) rs.length cap2] (.slice (some ⟨a2, 0, none⟩) rs.length cap2, rs) (fun u hu => by simp at hu; subst hu; rfl) ⟨rfl, (hr.sl (Nat.le_refl _)).mono fun b hb => ⟨by omega, hb.2, by simp [Value.ownBlock]; omega⟩⟩
  rw [hrun] at happ
  simp only [Result.ok.injEq, Value.slice.injEq, Option.some.injEq, Addr.mk.injEq, and_true, true_and] at happ
  obtain ⟨⟨rfl, rfl⟩, rfl⟩ := happ
  have hga : a = g ∨ wr.heap.size < g := by simpa [Value.ownBlock] using hat
  have hgk : ∀ b, b < wr.heap.size → b ≠ a → w'.heap[b]? = wr.heap[b]? := fun b h1 h2 => hgr.block b h1 (by simp [Value.ownBlock]; omega)
  have hgs := hgr.size
  have hg7 := ho'.ge
  intro rs0 rest e
  cases ks with
  | nil =>
    simp only [List.nil_append, List.cons.injEq] at e
    obtain ⟨rfl, rfl⟩ := e
    obtain rfl : kvs = [] := List.eq_nil_of_length_eq_zero (by simpa using hl)
    have hc0 := (cellv_at ho' (Nat.le_refl _) (i := 0) (y := (.slice (some ⟨a2, 0, none⟩) rs.length cap2, rs)) rfl).1
    exact ⟨a2, cap2, L, wr, hWL, hgs, hgs, by omega, hg7.2, hg7.1, hc0, hr, fun b h1 h2 => hgk b h2 (by omega), fun i x hx => by simp at hx⟩
  | cons r0 rest0 =>
    simp only [List.cons_append, List.cons.injEq] at e
    obtain ⟨rfl, rfl⟩ := e
    obtain ⟨a0, c0, L0, w0, h1, h2, h3, h4, h5, h6, h7, h8, h9, h10⟩ := h r0 rest0 rfl
    have hcell : ∀ i y, kvs[i]? = some y → w'.cell? ⟨g, i, none⟩ = wr.cell? ⟨a, i, none⟩ := fun i y hy => by
      rw [(cellv_at hv (Nat.le_refl _) hy).1]
      exact (cellv_at ho' (Nat.le_refl _) (by rw [List.getElem?_append_left (List.getElem?_eq_some_iff.1 hy).1]; exact hy)).1
    have hsome : ∀ i, i < (r0 :: rest0).length → ∃ y, kvs[i]? = some y := fun i hi => ⟨_, List.getElem?_eq_getElem (by omega)⟩
    refine ⟨a0, c0, L0, w0, h1, by omega, by omega, by omega, hg7.2, hg7.1, ?_, h8, fun b g1 g2 => (hgk b (by omega) (by omega)).trans (h9 b g1 g2), fun i x hx => ?_⟩
    · obtain ⟨y, hy⟩ := hsome 0 (by simp)
      rw [hcell 0 y hy]; exact h7
    · by_cases hi : i < rest0.length
      · rw [List.getElem?_append_left hi] at hx
        obtain ⟨v, g1, g2⟩ := h10 i x hx
        obtain ⟨y, hy⟩ := hsome (i + 1) (by simp; omega)
        exact ⟨v, by rw [hcell (i + 1) y hy]; exact g1, (g2.keep fun b hb => hgk b hb.2.1 hb.2.2).mono fun b hb => ⟨hb.1, by omega, by omega⟩⟩
      · rw [List.getElem?_append_right (by omega)] at hx
        have hi0 : i = rest0.length := by have := (List.getElem?_eq_some_iff.1 hx).1; simp at this; omega
        subst hi0
        rw [Nat.sub_self] at hx
        obtain rfl : rs = x := by simpa using hx
        have hkl : kvs.length = rest0.length + 1 := by simpa using hl
        have hc := cellv_at ho' (Nat.le_refl _) (i := rest0.length + 1) (y := (.slice (some ⟨a2, 0, none⟩) rs.length cap2, rs)) (by rw [List.getElem?_append_right (by omega), hkl, Nat.sub_self]; rfl)
        exact ⟨_, hc.1, ((hr.sl (Nat.le_refl _)).keep fun b hb => hgk b hb.2 (by omega)).mono fun b hb => ⟨by omega, by omega, by omega⟩⟩

/-- Drawn kinds, with what is known of their rows. -/
def KsF (g p N : Nat) (W : World) (e : Ending) (w' : World) : Prop :=
  ∃ (ad cap : Nat) (ks : Ks), e = .returned (.slice (some ⟨ad, 0, none⟩) ks.length cap) ∧ ks.length ≤ 3 ∧ (∀ r ∈ ks, r.length ≤ 3) ∧ Cod.recs.Sl (Fresh W w') w' (.slice (some ⟨ad, 0, none⟩) ks.length cap) ks ∧ Step g p N W w' ∧ Early ks ∧ OwnRow Cod.recs 44 W.heap.size W.heap.size w' (.slice (some ⟨ad, 0, none⟩) ks.length cap) ks ∧ First W.heap.size ad ks w'.heap.size w'

/-- What is known while kinds are drawn. -/
structure KindsF (g p N : Nat) (W : World) (a cap : Nat) (ks : Ks) (w : World) : Prop where
  step : Step g p N W w
  own : OwnRow Cod.recs 44 W.heap.size W.heap.size w (.slice (some ⟨a, 0, none⟩) ks.length cap) ks
  len : ∀ r ∈ ks, r.length ≤ 3
  near : Early ks
  fst : First W.heap.size a ks w.heap.size w

/-- And within one module. -/
structure ModF (g p N : Nat) (W : World) (a cap : Nat) (ks : Ks) (L a2 cap2 : Nat) (rs : List Rec) (w : World) : Prop where
  out : KindsF g p N W a cap ks w
  lt : a < L
  row : OwnRow Cod.rec_ 47 L L w (.slice (some ⟨a2, 0, none⟩) rs.length cap2) rs
  early : Early (ks ++ [rs])
  fstL : First W.heap.size a ks L w

theorem KindsF.go {g p N M : Nat} {W w w' : World} {a cap : Nat} {ks : Ks} (h : KindsF g p N W a cap ks w) (hg : g < W.heap.size) (hs : Step g p M W w') (hb : w.grownBy w' (some g)) : KindsF g p M W a cap ks w' :=
  ⟨hs, h.own.grow (Nat.le_refl _) hb hg, h.len, h.near, (h.fst.keep hb.size fun i hi hw => hb.block i hw (by simp; omega)).up hb.size⟩
theorem KindsF.below {g p N : Nat} {W w w' : World} {a cap : Nat} {ks : Ks} (h : KindsF g p N W a cap ks w) (hb : Below w.heap.size w w') : KindsF g p N W a cap ks w' :=
  ⟨h.step.below hb, h.own.below (Nat.le_refl _) hb, h.len, h.near, (h.fst.keep hb.size fun i _ hw => hb.block i hw).up hb.size⟩

theorem ModF.go {g p N M : Nat} {W w w' : World} {a cap : Nat} {ks : Ks} {L a2 cap2 : Nat} {rs : List Rec} (h : ModF g p N W a cap ks L a2 cap2 rs w) (hg : g < W.heap.size) (hL : W.heap.size ≤ L) (hs : Step g p M W w') (hb : w.grownBy w' (some g)) : ModF g p M W a cap ks L a2 cap2 rs w' :=
  ⟨h.out.go hg hs hb, h.lt, h.row.grow (Nat.le_refl _) hb (by omega), h.early, h.fstL.keep hb.size fun i hi hw => hb.block i hw (by simp; omega)⟩
theorem ModF.below {g p N : Nat} {W w w' : World} {a cap : Nat} {ks : Ks} {L a2 cap2 : Nat} {rs : List Rec} (h : ModF g p N W a cap ks L a2 cap2 rs w) (hb : Below w.heap.size w w') : ModF g p N W a cap ks L a2 cap2 rs w' :=
  ⟨h.out.below hb, h.lt, h.row.below (Nat.le_refl _) hb, h.early, h.fstL.keep hb.size fun i _ hw => hb.block i hw⟩

theorem ModF.with_ {g p N M : Nat} {W w : World} {a cap : Nat} {ks : Ks} {L a2 cap2 : Nat} {rs : List Rec} (h : ModF g p N W a cap ks L a2 cap2 rs w) {a3 n cap3 : Nat} {rs' : List Rec} (hn : n = rs'.length) (hr : OwnRow Cod.rec_ 47 L L w (.slice (some ⟨a3, 0, none⟩) n cap3) rs') (hm : N ≤ M) (he : Early (ks ++ [rs'])) : ModF g p M W a cap ks L a3 cap3 rs' w := by
  subst hn
  exact ⟨⟨h.out.step.more hm, h.out.own, h.out.len, h.out.near, h.out.fst⟩, h.lt, hr, he, h.fstL⟩

set_option maxRecDepth 100000 in
set_option maxHeartbeats 6000000 in
theorem kindsF_any (g p : Nat) (w : World) (h : Rdr g p w) (hp : p ≤ 7000000) :
    Calls Try.prog 18 #[.pointer (some ⟨g, 0, none⟩)] w (KsF g p 300 w) := by
  have HR := Lib.hid h
  have hgl := h.lt
  clear h
  have HK0 := Lib.hid (show KindsF g p 0 w w.heap.size 0 [] (w.alloc (.cells #[] 44)) from ⟨(Step.start HR.out).below ((Below.refl _ _).alloc (Nat.le_refl _) _), OwnRow.lit w (Nat.le_refl _), fun _ h => by simp at h, early_empty, First.nil⟩)
  go_enter Try.func18, Try.ntmps18
  go_wp2_with fail
  refine (pick_at HK0.out.step (by omega) (by omega)).mono ?_
  rintro e w3 ⟨k, rfl, hk, hS3, hg3⟩
  have HK3 := Lib.hid (HK0.out.go hgl hS3 hg3)
  have hk3 : k ≤ 3 := by omega
  clear hS3 hg3 hk HK0
  go_wp2_with fail
  go_loopw [3, 4] (fun o i wr => ∃ (k a cap : Nat) (ks : Ks), i = .int .i64 k ∧ o = .slice (some ⟨a, 0, none⟩) ks.length cap ∧ ks.length + k ≤ 3 ∧ Hid (KindsF g p (1 + 95 * ks.length) w a cap ks wr)) (fun _ i _ => (intOf i).toNat)
  case atStart => exact ⟨k, w.heap.size, 0, [], rfl, rfl, by simpa using hk3, HK3⟩
  case round =>
    obtain ⟨i, a, cap, ks, rfl, rfl, hki, HKr⟩ := hrel
    by_cases hi : 0 < i
    · obtain ⟨wo, rfl⟩ : ∃ wo : World, wo = wr := ⟨_, rfl⟩
      have hWo := HKr.out.own.ge
      have HM0 := Lib.hid (show ModF g p (1 + 95 * ks.length) w a cap ks wo.heap.size wo.heap.size 0 [] (wo.alloc (.cells #[] 47)) from ⟨HKr.out.below ((Below.refl _ _).alloc (Nat.le_refl _) _), hWo.2, OwnRow.lit wo (Nat.le_refl _), early_nil HKr.out.near, HKr.out.fst.keep (by simp) fun i _ hw => Below.heap_alloc _ _ _ hw⟩)
      go_wp2_with fail
      refine (pick_at HM0.out.out.step (by omega) (by omega)).mono ?_
      rintro e w5 ⟨k5, rfl, hk5, hS5, hg5⟩
      have HM5 := Lib.hid (show ModF g p (2 + 95 * ks.length) w a cap ks wo.heap.size wo.heap.size 0 [] w5 from ⟨HM0.out.out.go hgl (hS5.more (by omega)) hg5, hWo.2, HM0.out.row.grow (Nat.le_refl _) hg5 (by have := HKr.out.step.size; omega), HM0.out.early, HM0.out.fstL.keep hg5.size fun i hi hw => hg5.block i hw (by simp; omega)⟩)
      have hk53 : k5 ≤ 3 := by omega
      clear hS5 hg5 hk5 HM0
      go_wp2_with fail
      go_loopw [5, 6] (fun o i wr => ∃ (k j a2 cap2 : Nat) (rs : List Rec), i = .int .i64 k ∧ o = .slice (some ⟨a2, 0, none⟩) rs.length cap2 ∧ j + k ≤ 3 ∧ rs.length ≤ j ∧ Hid (ModF g p (2 + 95 * ks.length + 31 * j) w a cap ks wo.heap.size a2 cap2 rs wr)) (fun _ i _ => (intOf i).toNat)
      case atStart => exact ⟨k5, 0, wo.heap.size, 0, [], rfl, rfl, by omega, by simp, HM5⟩
      case round =>
        obtain ⟨k6, j, a2, cap2, rs, rfl, rfl, hjk, hrj, HMr⟩ := hrel
        by_cases hk6 : 0 < k6
        · have hW1 := HMr.out.out.step.size
          have hL1 : wo.heap.size ≤ wr.heap.size := by have := HMr.out.row.ge; omega
          have hL0 : w.heap.size ≤ wo.heap.size := by omega
          obtain ⟨g1, c1, w1, g2, c2, w2, happ1, happ2, hs2, hb2⟩ := room_out rfl HMr.out.out.own (by omega) HMr.out.row hW1 hL0 1
          have HM2 := Lib.hid (HMr.out.below hb2)
          have HS2 := Lib.hid hs2
          clear hs2
          have Hlen := Lib.hid (show ∀ r ∈ ks ++ [rs], r.length ≤ 10 from by
            intro r hr
            rcases List.mem_append.1 hr with hr | hr
            · have := HMr.out.out.len r hr; omega
            · simp at hr; subst hr; omega)
          go_wp2_with (first | (at_builtin; refine wpList_append_run rfl _ _ _ rfl rfl rfl happ1 ?_) | (at_builtin; refine wpList_append_run rfl _ _ _ rfl rfl rfl happ2 ?_))
          refine (record_step HM2.out.out.step (by omega) HS2.out (fun b hb => ⟨hb.2, by omega⟩) (by simp; omega) Hlen.out).mono ?_
          rintro e w3 ⟨able, A, c, fs, rfl, hI, hl4, hfs, hnear, hS3, hg3⟩
          have HI := Lib.hid hI
          have HNr := Lib.hid (And.intro hl4 hnear)
          have HM3 := Lib.hid (HM2.out.go hgl hL0 hS3 hg3)
          have HM4 := Lib.hid (HM3.out.below (w' := w3.alloc (.cells #[.int .i64 able, .slice A fs.length c] 47)) ((Below.refl _ _).alloc (Nat.le_refl _) _))
          have hw3 := hg3.size
          have hw2 := hb2.size
          have HX := Lib.hid (Blk.new w3 47 #[.int .i64 able, .slice A fs.length c])
          have hfs4 := (hfs.keep (w' := w3.alloc (.cells #[.int .i64 able, .slice A fs.length c] 47)) fun b hb => Below.heap_alloc _ _ _ hb.2)
          obtain ⟨w4, hw4⟩ : ∃ w4 : World, w4 = w3.alloc (.cells #[.int .i64 able, .slice A fs.length c] 47) := ⟨_, rfl⟩
          have hs4 : w4.heap.size = w3.heap.size + 1 := by rw [hw4]; simp
          rw [← hw4] at HM4 hfs4 HX
          have hF4 : ∀ b, Fresh w2 w3 b → wo.heap.size ≤ b ∧ b < w4.heap.size := fun b hb => ⟨by have := hb.1; omega, by have := hb.2; omega⟩
          have hL4 : wo.heap.size ≤ w4.heap.size := by omega
          obtain ⟨g5, c5, w5, g6, c6, w6, happ3, happ4, ho6, hb5, hb6⟩ := room_seq (b0 := w3.heap.size + 1) HM4.out.row (by omega) hL4 hfs4 hF4 HI.out 1 hs4.symm
          obtain ⟨g5b, c5b, w5b, g6b, c6b, w6b, happ3b, happ4b, ho6b, hb6b⟩ := room_at (b0 := w3.heap.size + 1) (bx := w3.heap.size + 2) (wB := ((w4.alloc (.cells #[] 47)).alloc (.cells #[.int .i64 able, .slice A fs.length c] 47)).drew) HM4.out.row (by omega) hL4 hfs4 hF4 HI.out 1 (below_drew (((Below.refl _ _).alloc (Nat.le_refl _) _).alloc (by simp) _)) (by omega) (by omega) (by
            have := (Blk.new w4 47 #[]).alloc (.cells #[.int .i64 able, .slice A fs.length c] 47)
            rw [hs4] at this; exact this) (by
            have := Blk.new (w4.alloc (.cells #[] 47)) 47 #[.int .i64 able, .slice A fs.length c]
            simp only [World.size_alloc] at this
            rw [hs4] at this; exact this)
          obtain ⟨g5c, c5c, w5c, g6c, c6c, w6c, happ3c, happ4c, ho6c, hb6c⟩ := room_at (b0 := w3.heap.size + 2) (bx := w3.heap.size + 1) (wB := ((w4.alloc (.cells #[.int .i64 able, .slice A fs.length c] 47)).alloc (.cells #[] 47)).drew) HM4.out.row (by omega) hL4 hfs4 hF4 HI.out 1 (below_drew (((Below.refl _ _).alloc (Nat.le_refl _) _).alloc (by simp) _)) (by omega) (by omega) (by
            have := Blk.new (w4.alloc (.cells #[.int .i64 able, .slice A fs.length c] 47)) 47 #[]
            simp only [World.size_alloc] at this
            rw [hs4] at this; exact this) (by
            have := (Blk.new w4 47 #[.int .i64 able, .slice A fs.length c]).alloc (.cells #[] 47)
            rw [hs4] at this; exact this)
          have HO6 := Lib.hid (And.intro ho6 (HM4.out.below hb6))
          have HO6b := Lib.hid (And.intro ho6b (HM4.out.below hb6b))
          have HO6c := Lib.hid (And.intro ho6c (HM4.out.below hb6c))
          have x0 := HX.out.cell0
          have x1 := HX.out.cell1
          have y0 := (HX.out.below hb5 (by omega)).cell0
          have y1 := (HX.out.below hb5 (by omega)).cell1
          subst hw4
          clear hI hl4 hfs hnear hfs4 hS3 hg3 ho6 hb5 hb6 ho6b hb6b ho6c hb6c happ1 happ2 hF4
          go_upto_region 10 with fail
          go_cut [8] from 19 to 49 (fun s8 wx => ∃ (g6 c6 : Nat), s8 = .slice (some ⟨g6, 0, none⟩) (rs.length + 1) c6 ∧ Hid (OwnRow Cod.rec_ 47 wo.heap.size wo.heap.size wx (.slice (some ⟨g6, 0, none⟩) (rs.length + 1) c6) (rs ++ [⟨able, fs⟩]) ∧ ModF g p (2 + 95 * ks.length + 31 * j + 30) w a cap ks wo.heap.size a2 cap2 rs wx))
          case first =>
            go_region_law (first | (with_reducible refine step_append_at (.tmp 31) (.tmp 32) happ3 (by kernel_rfl) (by kernel_rfl) (by kernel_rfl) (by kernel_rfl) (by kernel_rfl) ?_) | (with_reducible refine step_append_at (.tmp 33) (.tmp 35) happ4 (by kernel_rfl) (by kernel_rfl) (by kernel_rfl) (by kernel_rfl) (by kernel_rfl) ?_) | (with_reducible refine step_append_at (.tmp 31) (.tmp 32) happ3b (by kernel_rfl) (by kernel_rfl) (by kernel_rfl) (by kernel_rfl) (by kernel_rfl) ?_) | (with_reducible refine step_append_at (.tmp 33) (.tmp 35) happ4b (by kernel_rfl) (by kernel_rfl) (by kernel_rfl) (by kernel_rfl) (by kernel_rfl) ?_) | (with_reducible refine step_append_at (.tmp 31) (.tmp 32) happ3c (by kernel_rfl) (by kernel_rfl) (by kernel_rfl) (by kernel_rfl) (by kernel_rfl) ?_) | (with_reducible refine step_append_at (.tmp 33) (.tmp 35) happ4c (by kernel_rfl) (by kernel_rfl) (by kernel_rfl) (by kernel_rfl) (by kernel_rfl) ?_))
            all_goals
              go_wp2
              go_meet
              first
                | exact ⟨g6, c6, rfl, HO6⟩
                | exact ⟨g6b, c6b, rfl, HO6b⟩
                | exact ⟨g6c, c6c, rfl, HO6c⟩
          case rest =>
            obtain ⟨g7, c7, rfl, HR7⟩ := hcut
            clear happ3 happ4 happ3b happ4b happ3c happ4c HO6 HO6b HO6c x0 x1 y0 y1 HX
            obtain ⟨g8, c8, w8, g9, c9, w9, happ5, happ6, hs9, hb9⟩ := room_out (rs := rs ++ [⟨able, fs⟩]) (by simp) HR7.out.2.out.own (by omega) HR7.out.1 HR7.out.2.out.step.size hL0 1
            have HS9 := Lib.hid hs9
            have HM9 := Lib.hid (HR7.out.2.below hb9)
            have HO9 := Lib.hid (HR7.out.1.below (Nat.le_refl _) hb9)
            clear hs9 hb9 HR7
            go_wp2_with (first | (at_builtin; refine wpList_append_run rfl _ _ _ rfl rfl rfl happ5 ?_) | (at_builtin; refine wpList_append_run rfl _ _ _ rfl rfl rfl happ6 ?_))
            refine (specKindsOk_any _ _ _ _ HS9.out (fun b hb => hb.2)).mono ?_
            rintro e w10 ⟨rfl, hb10⟩
            have HM10 := Lib.hid (HM9.out.below hb10)
            have HO10 := Lib.hid (HO9.out.below (Nat.le_refl _) hb10)
            clear hb10 happ5 happ6 HM9 HO9
            cases hkk : kindsOk (ks ++ [rs ++ [⟨able, fs⟩]]) with
            | true =>
              go_wp2_with fail
              exact ⟨⟨k6 - 1, j + 1, g7, c7, rs ++ [⟨able, fs⟩], val_int (by omega), by simp, by omega, by simp; omega, Lib.hid (HM10.out.with_ (by simp) HO10.out (by omega) (early_push HM10.out.early HNr.out.1 HNr.out.2))⟩, by simp [intOf]; omega⟩
            | false =>
              go_wp2_with fail
              refine (pick_at HM10.out.out.step (by omega) (by omega)).mono ?_
              rintro e w11 ⟨k11, rfl, hk11, hS11, hg11⟩
              have HM11 := Lib.hid (HM10.out.go hgl hL0 hS11 hg11)
              have HO11 := Lib.hid (HO10.out.grow (Nat.le_refl _) hg11 (by omega))
              clear hS11 hg11 hk11 HM10 HO10
              by_cases hk0 : (k11 : Int) = 0
              · have hb0 : ((k11 : Int) == 0) = true := by simpa using hk0
                clear hk0
                go_wp2_with fail
                exact ⟨⟨k6 - 1, j + 1, g7, c7, rs ++ [⟨able, fs⟩], val_int (by omega), by simp, by omega, by simp; omega, Lib.hid (HM11.out.with_ (by simp) HO11.out (by omega) (early_push HM11.out.early HNr.out.1 HNr.out.2))⟩, by simp [intOf]; omega⟩
              · have hb0 : ((k11 : Int) == 0) = false := by simpa using hk0
                clear hk0
                go_wp2_with fail
                exact ⟨⟨k6 - 1, j + 1, a2, cap2, rs, val_int (by omega), rfl, by omega, by omega, Lib.hid (HM11.out.with_ rfl HM11.out.row (by omega) HM11.out.early)⟩, by simp [intOf]; omega⟩
        · have hW1 := HMr.out.out.step.size
          have hL0 : w.heap.size ≤ wo.heap.size := by omega
          have hlt := HMr.out.lt
          obtain ⟨g7, c7, w7, happ7, ho7, hg7, hge7, _⟩ := OwnRow.push (P := Try.prog) 23 23 _ 24 Try.underlying23 info_recs rfl (by decide) (by omega) HMr.out.out.own (by omega) (Nat.le_refl _) hW1 1 [.slice (some ⟨a2, 0, none⟩) rs.length cap2] rs (fun u hu => by simp at hu; subst hu; rfl) ⟨_, rfl, (HMr.out.row.sl (Nat.le_refl _)).mono fun b hb => ⟨by omega, hb.2, by simp [Value.ownBlock]; omega⟩⟩
          have HK7 := Lib.hid (show KindsF g p (1 + 95 * (ks ++ [rs]).length) w g7 c7 (ks ++ [rs]) w7 from by
            have e : (ks ++ [rs]).length = ks.length + 1 := by simp
            refine ⟨(HMr.out.out.step.far (Nat.le_refl _) hgl (grown_below_none hg7 hW1 (by intro k hk; simp [Value.ownBlock] at hk; omega))).more (by rw [e]; omega), by rw [e]; exact ho7, fun r hr => ?_, HMr.out.early, ?_⟩
            · rcases List.mem_append.1 hr with hr | hr
              · exact HMr.out.out.len r hr
              · simp at hr; subst hr; omega
            · exact HMr.out.fstL.push HMr.out.out.own (by omega) hW1 hL0 HMr.out.row hlt happ7)
          clear ho7 hg7
          go_wp2_with (at_builtin; refine wpList_append_run rfl _ _ _ rfl rfl rfl happ7 ?_)
          exact ⟨⟨i - 1, g7, c7, ks ++ [rs], val_int (by omega), by simp, by simp; omega, HK7⟩, by simp [intOf]; omega⟩
    · go_wp2_with fail
      exact bodyPost_ret (v := .slice (some ⟨a, 0, none⟩) ks.length cap) (by simp [results, Try.results18, go_sem]) rfl (show KsF g p 300 w _ _ from ⟨a, cap, ks, rfl, by omega, HKr.out.len, (HKr.out.own.sl (Nat.le_refl _)).mono fun b hb => hb, HKr.out.step.more (by omega), HKr.out.near, HKr.out.own, HKr.out.fst⟩)
end Go.Proofs.Ytelhjdccfomafaa
