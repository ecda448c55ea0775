/- What the answers are at the laws' sample. -/
import Derived.Test.YtoelfiendfemaaaSampD
namespace Go.Proofs.Ytoelfiendfemaaa.Pl
set_option maxRecDepth 100000 in
theorem smp_uses : uses [smp] = [⟨0, 8, 0, 3, true⟩, ⟨0, 10, 0, 0, false⟩] := by kernel_rfl
set_option maxRecDepth 100000 in
theorem smp_res8 : resolve [smp] 0 8 = some (0, 3) := by kernel_rfl
set_option maxRecDepth 100000 in
theorem smp_res7 : resolve [smp] 0 7 = none := by kernel_rfl
set_option maxRecDepth 100000 in
theorem smp_vis : visible [smp] 0 9 = [s1 98, s1 99] := by kernel_rfl
set_option maxRecDepth 100000 in
theorem smp_unb : unbound [smp] = [(0, 10)] := by kernel_rfl
set_option maxRecDepth 100000 in
theorem smp_dbl : doubles [smp] = [] := by kernel_rfl
set_option maxRecDepth 100000 in
theorem smp_dbl2 : doubles [smp, smp] = [(1, 1)] := by kernel_rfl
end Go.Proofs.Ytoelfiendfemaaa.Pl
