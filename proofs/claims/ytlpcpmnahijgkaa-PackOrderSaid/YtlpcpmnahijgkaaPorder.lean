/-
  PackOrder gives back true for any two numbers: the lesser one's bytes are less, and neither begins with the other one's.
-/
import Derived.Test.YtlpcpmnahijgkaaPnums
namespace Go.Proofs.Ytlpcpmnahijgkaa
open Go.RowKit

def toL (s : ByteArray) : List UInt8 := s.toList
theorem toList_nats (s : ByteArray) : s.toList.map UInt8.toNat = nats s := by rw [ByteArray.toList_eq]; rfl

#check @Op.bytesLess
#print Op.bytesLess
#print Op.bytesLess.eq_def

end Go.Proofs.Ytlpcpmnahijgkaa
