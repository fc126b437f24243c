/- Texts in the order of their bytes, and spans of them, in plain words. No condition: nothing here speaks of a program. -/
import Derived.Test.YtjadbppcjndmlaaBase
import Derived.Laws.Strings
import Derived.Laws.Concat
import Derived.BigFrame
namespace Go.Proofs.Ytjadbppcjndmlaa
open Go.RowKit
/-- Is the text below the other one. -/
def ltB (a b : ByteArray) : Bool := Op.bytesLess a.toList b.toList
/-- Is the text empty. -/
def nilB (a : ByteArray) : Bool := a.toList.isEmpty
/-- Are the texts the same. -/
def eqB (a b : ByteArray) : Bool := a.toList == b.toList
/-- The lowest text above k. -/
def nextT (k : ByteArray) : ByteArray := k ++ ⟨#[0]⟩
/-- Is the text below the bound, the empty bound being above all. -/
def inB (k h : ByteArray) : Bool := nilB h || ltB k h
/-- Is the one bound not above the other. -/
def endB (h m : ByteArray) : Bool := nilB m || (!nilB h && (ltB h m || eqB h m))
def emB (lo hi : ByteArray) : Bool := !inB lo hi
def hasB (lo hi k : ByteArray) : Bool := !ltB k lo && inB k hi
def meetB (la ha lb hb : ByteArray) : Bool := !emB la ha && (!emB lb hb && (inB la hb && inB lb ha))
def covB (la ha lb hb : ByteArray) : Bool := emB lb hb || (!ltB lb la && endB hb ha)
/-- The document's own. -/
def leB (a b : ByteArray) : Bool := ltB a b || eqB a b
def remB (lo hi : ByteArray) : Bool := !nilB hi && leB hi lo
def rhasB (lo hi k : ByteArray) : Bool := !ltB k lo && (nilB hi || ltB k hi)
def rmeetB (la ha lb hb : ByteArray) : Bool := !(remB la ha || remB lb hb) && ((nilB ha || ltB lb ha) && (nilB hb || ltB la hb))
def rcovB (la ha lb hb : ByteArray) : Bool := remB lb hb || (!ltB lb la && (nilB ha || (!nilB hb && leB hb ha)))
/-- The greater one. -/
def maxT (a b : ByteArray) : ByteArray := if ltB a b = true then b else a
/-- The lesser bound. -/
def minT (a b : ByteArray) : ByteArray := if endB a b = true then a else b
theorem run_max_texts {P : Program} (w : World) (ts : Array TypeId) (t : TypeId) (x y : ByteArray) : (Builtin.max_ ts t #[.string x, .string y]).run P w = .ok (.string (maxT x y)) w := by
  cases h : ltB x y <;> (unfold ltB at h; simp [Builtin.max_, Builtin.max2, Op.stringOp, asBool, maxT, ltB, h])
end Go.Proofs.Ytjadbppcjndmlaa
