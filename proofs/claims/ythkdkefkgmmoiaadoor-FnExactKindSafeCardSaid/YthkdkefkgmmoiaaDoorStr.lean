/- Strings as lists of bytes. -/
import Derived.Test.YthkdkefkgmmoiaaDoorKit
namespace Go.Proofs.YthkdkefkgmmoiaaDoor
open Go.RowKit

theorem toList_loop (bs : ByteArray) (i : Nat) (r : List UInt8) : ByteArray.toList.loop bs i r = r.reverse ++ bs.data.toList.drop i := by
  induction i, r using ByteArray.toList.loop.induct bs with
  | case1 i r h ih =>
    rw [ByteArray.toList.loop, if_pos h, ih, List.reverse_cons, List.append_assoc]
    congr 1
    have hi : i < bs.data.toList.length := by simpa using h
    rw [List.drop_eq_getElem_cons hi]
    simp [ByteArray.get!, h]
  | case2 i r h =>
    rw [ByteArray.toList.loop, if_neg h]
    have : bs.data.toList.length ≤ i := by simpa using h
    rw [List.drop_of_length_le this, List.append_nil]

theorem toList_data (s : ByteArray) : s.toList = s.data.toList := by
  unfold ByteArray.toList
  rw [toList_loop]
  simp
theorem length_toList (s : ByteArray) : s.toList.length = s.size := by rw [toList_data]; simp
theorem get_toList (s : ByteArray) (i : Nat) (h : i < s.size) : s.toList[i]? = some s[i] := by
  rw [toList_data, List.getElem?_eq_getElem (by simpa using h)]
  rfl
theorem ext_toList {s t : ByteArray} (h : s.toList = t.toList) : s = t := by
  rw [toList_data, toList_data] at h
  cases s; cases t
  simp at h
  exact congrArg _ h
end Go.Proofs.YthkdkefkgmmoiaaDoor
