/- Calls with plain arguments that answer a plain value, reckoned in an empty heap, answer so in every heap; calls that are known to answer so may be taken as known beforehand. -/
import Derived.Test.YtpjjmdbkgkembaaDoorVmAF
namespace Go.Vm

/-- two that are known, the one before the other -/
def orC (A B : qas) : qas := fun f a h => match A f a h with
  | some r => some r
  | none => B f a h
theorem or_ok {E : Env} {A B : qas} (hA : qcg E A) (hB : qcg E B) : qcg E (orC A B) := fun f args h v h' lw lp hcl => by
  unfold orC at hcl
  split at hcl
  · rename_i r e
    cases hcl
    exact hA f args h _ _ _ _ e
  · exact hB f args h v h' lw lp hcl

end Go.Vm
