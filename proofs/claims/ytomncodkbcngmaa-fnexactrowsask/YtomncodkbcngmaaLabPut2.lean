/- LabelsPut of the model, at every slice of labels. -/
import Derived.Test.YtomncodkbcngmaaLabPut
namespace Go.Proofs.Ytomncodkbcngmaa.Lab
open Go.RowKit Rw PutMath
set_option linter.unusedVariables false
attribute [local go_sem ↓] Go.wp_at_zero Go.wp_at_succ
end Go.Proofs.Ytomncodkbcngmaa.Lab
