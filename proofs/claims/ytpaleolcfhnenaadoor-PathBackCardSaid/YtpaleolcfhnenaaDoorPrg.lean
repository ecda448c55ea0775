/- The package's functions answer as the laws' walks ask. -/
import Derived.Test.YtpaleolcfhnenaaDoorEnd
import Derived.Test.YtpaleolcfhnenaaDoorTrc
namespace Go.Proofs.YtpaleolcfhnenaaDoor
set_option linter.unusedVariables false
set_option maxRecDepth 100000

theorem prog : Rt.Prog := Rt.prog_of ⟨
  fun t r i W _ h hz hi _ => Rt.of_at t r i W h hi (by omega),
  fun t r p a c W _ h hp _ hz => Rt.index_at t r p a c W h hp hz,
  fun t r p a c W _ h hp _ hz hg => Rt.get_at t r p a c W h hp (by omega) hg,
  fun t x r rx p a c W hT h hx hp hc hz hxz => Rt.replace_at t x r rx p a c W hT h hx hp hc hz hxz,
  fun t x r rx p a c W hT h hx hp hc hz hxz => Rt.insert_at t x r rx p a c W hT h hx hp hc hz hxz,
  fun t r p a c W hT h hp hc hz => Rt.remove_at t r p a c W hT h hp hc hz⟩
end Go.Proofs.YtpaleolcfhnenaaDoor
