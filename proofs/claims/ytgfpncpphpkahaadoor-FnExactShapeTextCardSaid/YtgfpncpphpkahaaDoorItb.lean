/- Instructions: the table of words, as the program lists it and as the model does; which instructions are ones, and their texts. -/
import Derived.Test.YtgfpncpphpkahaaDoorIta
import Derived.Test.YtgfpncpphpkahaaDoorVt
namespace Go.Proofs.YtgfpncpphpkahaaDoor
open Go.RowKit

def tabRows : List WRow := [
  ⟨[⟨#[110, 117, 109]⟩], 1000000, 0⟩,
  ⟨[⟨#[116, 114, 117, 101]⟩, ⟨#[102, 97, 108, 115, 101]⟩, ⟨#[109, 101]⟩, ⟨#[97, 100, 100]⟩, ⟨#[115, 117, 98]⟩, ⟨#[109, 117, 108]⟩, ⟨#[100, 105, 118]⟩, ⟨#[109, 111, 100]⟩, ⟨#[108, 101, 115, 115]⟩, ⟨#[115, 97, 109, 101]⟩, ⟨#[97, 110, 100]⟩, ⟨#[111, 114]⟩, ⟨#[110, 111, 116]⟩], 0, 0⟩,
  ⟨[⟨#[99, 111, 112, 121]⟩, ⟨#[109, 111, 118, 101]⟩, ⟨#[112, 117, 116]⟩], 5, 0⟩,
  ⟨[⟨#[100, 114, 111, 112]⟩], 0, 0⟩,
  ⟨[⟨#[112, 97, 99, 107]⟩, ⟨#[117, 110, 112, 97, 99, 107]⟩], 2, 0⟩,
  ⟨[⟨#[108, 101, 110, 100]⟩, ⟨#[108, 101, 110, 100, 119]⟩], 5, 0⟩,
  ⟨[⟨#[102, 105, 101, 108, 100]⟩], 2, 2⟩,
  ⟨[⟨#[114, 101, 97, 100]⟩, ⟨#[112, 101, 101, 107]⟩, ⟨#[119, 114, 105, 116, 101]⟩, ⟨#[102, 114, 101, 101, 122, 101]⟩], 0, 0⟩,
  ⟨[⟨#[107, 101, 101, 112]⟩, ⟨#[116, 97, 107, 101]⟩, ⟨#[104, 97, 115]⟩, ⟨#[115, 101, 101]⟩, ⟨#[115, 101, 101, 119]⟩], 2, 0⟩,
  ⟨[⟨#[106, 117, 109, 112]⟩, ⟨#[122, 101, 114, 111]⟩], 39, 0⟩,
  ⟨[⟨#[99, 97, 108, 108]⟩], 2, 3⟩,
  ⟨[⟨#[114, 101, 116]⟩, ⟨#[102, 97, 105, 108]⟩], 0, 0⟩]
def tabM : List (ByteArray × Int × Int) := [
  (⟨#[110, 117, 109]⟩, 1000001, 0),
  (⟨#[116, 114, 117, 101]⟩, 0, 0),
  (⟨#[102, 97, 108, 115, 101]⟩, 0, 0),
  (⟨#[109, 101]⟩, 0, 0),
  (⟨#[97, 100, 100]⟩, 0, 0),
  (⟨#[115, 117, 98]⟩, 0, 0),
  (⟨#[109, 117, 108]⟩, 0, 0),
  (⟨#[100, 105, 118]⟩, 0, 0),
  (⟨#[109, 111, 100]⟩, 0, 0),
  (⟨#[108, 101, 115, 115]⟩, 0, 0),
  (⟨#[115, 97, 109, 101]⟩, 0, 0),
  (⟨#[97, 110, 100]⟩, 0, 0),
  (⟨#[111, 114]⟩, 0, 0),
  (⟨#[110, 111, 116]⟩, 0, 0),
  (⟨#[99, 111, 112, 121]⟩, 6, 0),
  (⟨#[109, 111, 118, 101]⟩, 6, 0),
  (⟨#[112, 117, 116]⟩, 6, 0),
  (⟨#[100, 114, 111, 112]⟩, 0, 0),
  (⟨#[112, 97, 99, 107]⟩, 3, 0),
  (⟨#[117, 110, 112, 97, 99, 107]⟩, 3, 0),
  (⟨#[108, 101, 110, 100]⟩, 6, 0),
  (⟨#[108, 101, 110, 100, 119]⟩, 6, 0),
  (⟨#[102, 105, 101, 108, 100]⟩, 3, 3),
  (⟨#[114, 101, 97, 100]⟩, 0, 0),
  (⟨#[112, 101, 101, 107]⟩, 0, 0),
  (⟨#[119, 114, 105, 116, 101]⟩, 0, 0),
  (⟨#[102, 114, 101, 101, 122, 101]⟩, 0, 0),
  (⟨#[107, 101, 101, 112]⟩, 3, 0),
  (⟨#[116, 97, 107, 101]⟩, 3, 0),
  (⟨#[104, 97, 115]⟩, 3, 0),
  (⟨#[115, 101, 101]⟩, 3, 0),
  (⟨#[115, 101, 101, 119]⟩, 3, 0),
  (⟨#[106, 117, 109, 112]⟩, 40, 0),
  (⟨#[122, 101, 114, 111]⟩, 40, 0),
  (⟨#[99, 97, 108, 108]⟩, 3, 4),
  (⟨#[114, 101, 116]⟩, 0, 0),
  (⟨#[102, 97, 105, 108]⟩, 0, 0)]

/-- Whether a row of words has a word. -/
def hasW (op : ByteArray) : List ByteArray → Bool
  | [] => false
  | x :: r => x.toList == op.toList || hasW op r
/-- The greatest numbers of a word. -/
def findR (op : ByteArray) : List WRow → Option (Int × Int)
  | [] => none
  | r :: rs => if hasW op r.words = true then some (r.a, r.b) else findR op rs
/-- The same, word by word. -/
def findM (op : ByteArray) : List (ByteArray × Int × Int) → Option (Int × Int)
  | [] => none
  | x :: r => if (x.1.toList == op.toList) = true then some x.2 else findM op r

/-- Below which a number must be; 0 where it is not needed. -/
def limOf (a : Int) : Int := if a = 0 then 0 else a + 1
def flatR : List WRow → List (ByteArray × Int × Int)
  | [] => []
  | r :: rs => r.words.map (fun x => (x, limOf r.a, limOf r.b)) ++ flatR rs
theorem flat_tab : flatR tabRows = tabM := rfl
theorem findM_row (op : ByteArray) (a b : Int) (rest : List (ByteArray × Int × Int)) : ∀ ws : List ByteArray, findM op (ws.map (fun x => (x, a, b)) ++ rest) = if hasW op ws = true then some (a, b) else findM op rest
  | [] => by simp [hasW]
  | x :: r => by
    have ih := findM_row op a b rest r
    by_cases h : (x.toList == op.toList) = true
    · simp only [List.map_cons, List.cons_append, findM, hasW, h, if_true, Bool.true_or]
    · simp only [List.map_cons, List.cons_append, findM, hasW, h, if_false, Bool.false_or, ih, Bool.false_eq_true]
theorem findM_flat (op : ByteArray) : ∀ rs : List WRow, findM op (flatR rs) = (findR op rs).map (fun x => (limOf x.1, limOf x.2))
  | [] => rfl
  | r :: rs => by
    rw [flatR, findM_row, findM_flat op rs, findR]
    split <;> rfl
theorem findM_tab (op : ByteArray) : findM op tabM = (findR op tabRows).map (fun x => (limOf x.1, limOf x.2)) := by rw [← flat_tab, findM_flat]

/-- All rows are as they should be: no word is empty or long or has a blank, and the greatest numbers are small. -/
def rowOk (r : WRow) : Bool := r.words.all (fun x => decide (0 < x.size) && decide (x.size ≤ 8) && x.toList.all (fun c => c.toNat != 32)) && decide (0 ≤ r.a) && decide (r.a ≤ 1000000) && decide (0 ≤ r.b) && decide (r.b ≤ 39) && (decide (r.b = 0) || decide (0 < r.a))
theorem tab_ok : tabRows.all rowOk = true := by decide +kernel
theorem hasW_mem {op : ByteArray} : ∀ {ws : List ByteArray}, hasW op ws = true → op ∈ ws
  | x :: r, h => by
    unfold hasW at h
    rw [Bool.or_eq_true] at h
    rcases h with h | h
    · rw [beq_iff_eq] at h
      exact List.mem_cons.2 (.inl (ext_toList h).symm)
    · exact List.mem_cons.2 (.inr (hasW_mem h))
theorem findR_mem {op : ByteArray} {ab : Int × Int} : ∀ {rs : List WRow}, findR op rs = some ab → ∃ r ∈ rs, op ∈ r.words ∧ ab = (r.a, r.b)
  | r :: rs, h => by
    unfold findR at h
    split at h
    · rename_i hw
      exact ⟨r, List.mem_cons_self, hasW_mem hw, by simpa using h.symm⟩
    · obtain ⟨r', h1, h2⟩ := findR_mem h
      exact ⟨r', List.mem_cons_of_mem _ h1, h2⟩
structure Top (op : ByteArray) (a b : Int) : Prop where
  pos : 0 < op.size
  few : op.size ≤ 8
  whole : ∀ c ∈ op.toList, c.toNat ≠ 32
  a0 : 0 ≤ a
  a1 : a ≤ 1000000
  b0 : 0 ≤ b
  b1 : b ≤ 39
  ab : b = 0 ∨ 0 < a
theorem find_top {op : ByteArray} {a b : Int} (h : findR op tabRows = some (a, b)) : Top op a b := by
  obtain ⟨r, hr, ho, he⟩ := findR_mem h
  cases he
  have := List.all_eq_true.1 tab_ok r hr
  unfold rowOk at this
  simp only [Bool.and_eq_true, Bool.or_eq_true, decide_eq_true_eq, List.all_eq_true, bne_iff_ne, ne_eq] at this
  obtain ⟨⟨⟨⟨⟨h1, h2⟩, h3⟩, h4⟩, h5⟩, h6⟩ := this
  obtain ⟨⟨h7, h8⟩, h9⟩ := h1 op ho
  exact ⟨h7, h8, h9, h2, h3, h4, h5, h6⟩

def withB (n a : Int) : Bool := decide (0 ≤ n) && decide (n ≤ a)
/-- Whether an instruction is one. -/
def insOk (op : ByteArray) (x y : Int) : Bool := match findR op tabRows with | none => false | some (a, b) => withB x a && withB y b
/-- A number behind a blank, where it is needed. -/
def numT (a x : Int) : ByteArray := if a = 0 then ByteArray.empty else ⟨#[32]⟩ ++ decBy x.toNat
/-- The text of an instruction that is one. -/
def insT (op : ByteArray) (x y : Int) : ByteArray := match findR op tabRows with | none => op | some (a, b) => op ++ numT a x ++ numT b y
def insText (op : ByteArray) (x y : Int) : ByteArray := if insOk op x y = true then insT op x y else ByteArray.empty
def allWords : List ByteArray := tabM.map (·.1)
theorem withB_lim (n a : Int) : (if limOf a = 0 then decide (n = 0) else decide (0 ≤ n) && decide (n ≤ limOf a - 1)) = withB n a ∨ a < 0 := by
  unfold limOf withB
  by_cases h : a = 0
  · left; subst h; simp; rw [Bool.eq_iff_iff]; simp; omega
  · by_cases h' : a < 0
    · right; exact h'
    · left
      rw [if_neg h, if_neg (by omega)]
      congr 2
      simp
end Go.Proofs.YtgfpncpphpkahaaDoor
