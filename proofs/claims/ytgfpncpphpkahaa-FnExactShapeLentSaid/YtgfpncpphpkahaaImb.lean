/- The program's types: tables of kinds. -/
import Derived.Test.YtgfpncpphpkahaaIm
namespace Go.Proofs.Ytgfpncpphpkahaa
open Go.RowKit

def ableL (l : List (ByteArray × Rec)) (t : ByteArray) : Int :=
  if plainL l (ofT t) = -1 then -1 else if refB t then (if amp t then 3 else 2) else plainL l (ofT t)
def fitB (able a : Int) : Bool := !(a == -1) && !(bits .and .i64 a (needOf able) != needOf able)
def recL (l : List (ByteArray × Rec)) (r : Rec) : Bool :=
  (decide (0 ≤ r.able) && decide (r.able ≤ 15)) && decide (r.fields.length ≤ 3) && r.fields.all fun f => fitB r.able (plainL l f)

theorem extract_one {t : ByteArray} (h0 : 0 < t.size) : (t.extract 0 1).toList = [t[0]] := by
  rw [toList_data, ByteArray.data_extract]
  have hd : 0 < t.data.toList.length := by simpa using h0
  have : t.data.toList = t.data.toList[0] :: t.data.toList.drop 1 := by
    have := List.drop_eq_getElem_cons hd
    simpa using this
  rw [Array.toList_extract, List.extract_eq_take_drop, this]
  rfl

end Go.Proofs.Ytgfpncpphpkahaa
