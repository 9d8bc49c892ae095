/-
  All that the program says of fields.
-/
import Derived.Test.YtnmnbnlokmmcmaaFpput
namespace Go.Proofs.Ytnmnbnlokmmcmaa
end Go.Proofs.Ytnmnbnlokmmcmaa
