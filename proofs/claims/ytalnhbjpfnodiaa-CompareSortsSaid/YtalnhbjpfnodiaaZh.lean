/- A call of both arenas. -/
import Derived.Test.YtalnhbjpfnodiaaZg
import Derived.Deep.RegionHeld3
import Derived.Deep.QuietTactic
namespace Go.Proofs.Ytalnhbjpfnodiaa
open Go.RowKit
abbrev no : Nat → Prop := fun _ => False
structure Cq where
  m : Nat
  x : Int
  y : Int
  k : Int
def Cq.ok (c : Cq) : Prop := c.m < 2 ^ 64 ∧ i64R c.x ∧ i64R c.y ∧ i64R c.k
def cqA (c : Cq) : Value := .agg #[.int .u64 (c.m : Int), .int .i64 c.x, .int .i64 c.y, .int .i64 c.k]
section
variable {w0 W W' : World} {X X' : Nat → Prop} {pa pb : Nat} {ca cb c' : List Nat} {ra rb : List Rg} {ta tb t' : List (Nat × Nat)} {f : Nat} {args : Array Value} {E : Int}
theorem pa_act (h : Pr w0 W X pa pb ca ra ta cb rb tb) (hc : ∀ F, Ar W F pa ca ra ta → Calls Try.prog f args W (AcP W F pa ca ra ta E c' t')) : Calls Try.prog f args W (PrPost w0 W X pa pb (if E = 0 then c' else ca) ra (if E = 0 then ta ++ t' else ta) cb rb tb (.int .i64 E)) := by
  obtain ⟨F, ar, nx⟩ := pr_a h
  refine (hc F ar).mono ?_
  rintro e w' ⟨rfl, hs⟩
  exact nx _ _ _ _ _ hs
theorem pb_act (h : Pr w0 W X pa pb ca ra ta cb rb tb) (hc : ∀ F, Rb W F pb cb rb tb → Calls Try.prog f args W (RcP W F pb cb rb tb E c' t')) : Calls Try.prog f args W (PrPost w0 W X pa pb ca ra ta (if E = 0 then c' else cb) rb (if E = 0 then tb ++ t' else tb) (.int .i64 E)) := by
  obtain ⟨F, rr, nx⟩ := pr_b h
  refine (hc F rr).mono ?_
  rintro e w' ⟨rfl, hs⟩
  exact nx _ _ _ _ _ hs
theorem Pr.wcs (h : Pr w0 W X pa pb ca ra ta cb rb tb) : ∀ x ∈ ca, x < 2 ^ 64 := by
  obtain ⟨F, ar, _⟩ := pr_a h; exact ar.wcs
end
/-- What a call of law.do does: its error, the cells and the steps behind it. -/
def actE (n t wh : Nat) (c : Cq) : Int := if wh % 5 = 0 then swE n t c.m c.x c.y else if wh % 5 = 1 then mvE n t c.m c.x c.y else if wh % 5 = 2 then clE n t c.m c.x else if wh % 5 = 3 then rowE n t c.m 4 c.x c.y c.k else rowE n t c.m 3 c.x c.y c.k
def DoPost (w0 : World) (pa pb : Nat) (cs : List Nat) (e : Ending) (W' : World) : Prop :=
  ∃ E : Int, e = .returned (.tuple #[.int .i64 E, .int .i64 E]) ∧ ∃ cs' tr', Pr w0 W' no pa pb cs' [] tr' cs' [] tr' ∧ cs'.length = cs.length
theorem do_end {w0 W' : World} {X : Nat → Prop} {pa pb : Nat} {cs cs' : List Nat} {tr' : List (Nat × Nat)} {E : Int} (h : Pr w0 W' X pa pb cs' [] tr' cs' [] tr') (h1 : cs'.length = cs.length) : DoPost w0 pa pb cs (.returned (.tuple #[.int .i64 E, .int .i64 E])) W' :=
  ⟨E, rfl, _, _, h.less (fun _ h => h.elim), h1⟩
end Go.Proofs.Ytalnhbjpfnodiaa
