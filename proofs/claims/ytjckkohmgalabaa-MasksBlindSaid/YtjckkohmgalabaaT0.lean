/- A page of zeros. -/
import Derived.Test.YtjckkohmgalabaaD
import Derived.Deep.WholeRow
namespace Go.Proofs.Ytjckkohmgalabaa
open Go.RowKit
noncomputable def pz : Array Value := match Try.prog.info? 103 with
  | some i => (match i.zero with | some (.agg c) => c | _ => #[])
  | none => #[]
def isZ : Value → Bool
  | .int .u32 0 => true
  | _ => false
theorem page_info : (Try.prog.info? 103).map (fun i => (i.zero, i.size)) = some (some (.agg pz), 1024) := by kernel_rfl
theorem pz_size : pz.size = 1024 := by kernel_rfl
theorem pz_all : pz.toList.all isZ = true := by kernel_rfl
theorem isZ_eq {v : Value} (h : isZ v = true) : v = .int .u32 0 := by
  unfold isZ at h
  split at h
  · rfl
  · cases h
theorem pz_get {i : Nat} (h : i < 1024) : pz[i]? = some (.int .u32 0) := by
  have h1 : i < pz.size := by rw [pz_size]; exact h
  have h2 := List.all_eq_true.1 pz_all pz[i] (by simp)
  rw [Array.getElem?_eq_getElem h1, isZ_eq h2]
end Go.Proofs.Ytjckkohmgalabaa
