/-
  The walks over the document's answer for package span: Right, Has, Both, Meets, Within, Point; and 'great' of the statements.
-/
import Derived.Test.YtbganaaiaokfmaaProg
import Derived.Test.YtbganaaiaokfmaaSpanMore
import Derived.Laws.NewBlocks
import Derived.Test.YtbganaaiaokfmaaBase
import Derived.Laws.StructEq
namespace Go.Proofs.Ytbganaaiaokfmaa
open Go.RowKit

/-- A range as a value, and as it is meant. -/
abbrev rv (f t : ByteArray) (e : Bool) : Value := .agg #[.string f, .string t, .bool e]
def rg (f t : ByteArray) (e : Bool) : Rng := ⟨f.toList, t.toList, e⟩

theorem len_size (f : ByteArray) : f.toList.length = f.size := by rw [ByteArray.toList_eq]; exact Lib.size_eq f ▸ rfl

theorem right_rg (f t : ByteArray) (e : Bool) : right (rg f t e) = (decide (f.size ≤ 513) && decide (t.size ≤ 513) && (if e then Op.bytesLess f.toList t.toList else t.toList == [])) := by
  unfold right rg
  simp only [len_size]
  rfl

/-- Has, where the range is right. -/
theorem has_rg (f t : ByteArray) (e : Bool) (k : ByteArray) : has (rg f t e) k.toList = (right (rg f t e) && (Op.bytesLess f.toList k.toList || f.toList == k.toList) && (!e || Op.bytesLess k.toList t.toList)) := rfl

end Go.Proofs.Ytbganaaiaokfmaa
