/- The laws at the world as it is, over the program's five walks. -/
import Derived.Test.YtoelfiendfemaaaLaw3
import Derived.Test.YtoelfiendfemaaaSamp
namespace Go.Proofs.Ytoelfiendfemaaa
open Go.RowKit Go.Deep

theorem uses_one (HP : Prg) (w : World) {a : Option Addr} {c : Nat} {us : List Pl.Un} {R : Nat → Sl} (hU : IsU w a us R) : Calls Try.prog 3 #[.slice a us.length c] w (YesP w) :=
  law_uses HP (fun w => sample_any w) a us.length c us R w trivial hU rfl
theorem lists_one (HP : Prg) (w : World) {a : Option Addr} {c : Nat} {us : List Pl.Un} {R : Nat → Sl} (hU : IsU w a us R) : Calls Try.prog 5 #[.slice a us.length c] w (YesP w) :=
  law_lists HP (fun w => sample_any w) a us.length c us R w trivial hU rfl
theorem resolves_one (HP : Prg) (w : World) {a : Option Addr} {c : Nat} {us : List Pl.Un} {R : Nat → Sl} (hU : IsU w a us R) : Calls Try.prog 6 #[.slice a us.length c] w (YesP w) :=
  law_resolves HP (fun w => sample_any w) a us.length c us R w trivial hU rfl
theorem places_one (HP : Prg) (p q : Int) (w : World) {a : Option Addr} {c : Nat} {us : List Pl.Un} {R : Nat → Sl} (hU : IsU w a us R) : Calls Try.prog 4 #[.slice a us.length c, .agg #[.int .i64 p, .int .i64 q]] w (YesP w) :=
  law_places HP (fun w => sample_any w) a us.length c us R p q w trivial hU rfl
end Go.Proofs.Ytoelfiendfemaaa
