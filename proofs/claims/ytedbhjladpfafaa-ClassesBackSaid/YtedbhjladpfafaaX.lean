/- Layer 3: the laws of a boolean algebra. -/
import Derived.Test.YtedbhjladpfafaaW
import Derived.Deep.Cut
namespace Go.Proofs.Ytedbhjladpfafaa
open Go.RowKit
def uS (p q : Nat → Bool) : Nat → Bool := fun i => p i || q i
def mS (p q : Nat → Bool) : Nat → Bool := fun i => p i && q i
def dS (p q : Nat → Bool) : Nat → Bool := fun i => p i && !q i
def nS (p : Nat → Bool) : Nat → Bool := fun i => !p i
theorem uni_any (p q : Nat → Bool) (w : World) : Calls Try.prog 20 #[sv p, sv q] w (SetPost w (uS p q)) := union_any p q w
theorem mee_any (p q : Nat → Bool) (w : World) : Calls Try.prog 22 #[sv p, sv q] w (SetPost w (mS p q)) := meet_any p q w
theorem min_any (p q : Nat → Bool) (w : World) : Calls Try.prog 24 #[sv p, sv q] w (SetPost w (dS p q)) := minus_any p q w
theorem neg_any (p : Nat → Bool) (w : World) : Calls Try.prog 26 #[sv p] w (SetPost w (nS p)) := not_any p w
theorem neq4 (w : World) (p q : Nat → Bool) : (Op.equalIn 10000 26 (.agg (sc p)) (.agg (sc q))).run Try.prog w = .ok (eqS p q) w := eq4 w p q
attribute [local go_sem] eq4 guard4 eq4z
theorem three_sets (w : World) (p q r : Nat → Bool) : SA (((w.alloc (setO p)).alloc (setO q)).alloc (setO r)) w.heap.size p ∧ SA (((w.alloc (setO p)).alloc (setO q)).alloc (setO r)) (w.heap.size + 1) q ∧
    SA (((w.alloc (setO p)).alloc (setO q)).alloc (setO r)) (w.heap.size + 1 + 1) r ∧ Below w.heap.size w (((w.alloc (setO p)).alloc (setO q)).alloc (setO r)) :=
  ⟨((SA.new w p).alloc _).alloc _, (SA.new' _ q _ (by simp)).alloc _, SA.new' _ r _ (by simp), (((Below.refl _ w).alloc (by simp) _).alloc (by simp) _).alloc (by simp; omega) _⟩
def allS : Nat → Bool := rngP 0 255
theorem ran_any (w : World) : Calls Try.prog 11 #[.int .i64 0, .int .i64 255] w fun e w' => e = .returned (.tuple #[sv allS, .int .i64 0]) ∧ Below w.heap.size w w' := range_any 0 255 w
theorem q1 (a b c : Nat → Bool) : eqS (uS a b) (uS b a) = true := eqS_true fun i _ => by
  repeat (first | unfold uS | unfold mS | unfold dS | unfold nS)
  (try dsimp only)
  all_goals (cases a i <;> cases b i <;> cases c i <;> rfl)
theorem q2 (a b c : Nat → Bool) : eqS (mS a b) (mS b a) = true := eqS_true fun i _ => by
  repeat (first | unfold uS | unfold mS | unfold dS | unfold nS)
  (try dsimp only)
  all_goals (cases a i <;> cases b i <;> cases c i <;> rfl)
theorem q3 (a b c : Nat → Bool) : eqS (uS (uS a b) c) (uS a (uS b c)) = true := eqS_true fun i _ => by
  repeat (first | unfold uS | unfold mS | unfold dS | unfold nS)
  (try dsimp only)
  all_goals (cases a i <;> cases b i <;> cases c i <;> rfl)
theorem q4 (a b c : Nat → Bool) : eqS (mS (mS a b) c) (mS a (mS b c)) = true := eqS_true fun i _ => by
  repeat (first | unfold uS | unfold mS | unfold dS | unfold nS)
  (try dsimp only)
  all_goals (cases a i <;> cases b i <;> cases c i <;> rfl)
theorem q5 (a b c : Nat → Bool) : eqS (mS a (uS b c)) (uS (mS a b) (mS a c)) = true := eqS_true fun i _ => by
  repeat (first | unfold uS | unfold mS | unfold dS | unfold nS)
  (try dsimp only)
  all_goals (cases a i <;> cases b i <;> cases c i <;> rfl)
theorem q6 (a b c : Nat → Bool) : eqS (uS a (mS b c)) (mS (uS a b) (uS a c)) = true := eqS_true fun i _ => by
  repeat (first | unfold uS | unfold mS | unfold dS | unfold nS)
  (try dsimp only)
  all_goals (cases a i <;> cases b i <;> cases c i <;> rfl)
theorem q7 (a : Nat → Bool) : eqS (nS (nS a)) a = true := eqS_true fun i _ => by
  unfold nS; simp
theorem q8 (a b c : Nat → Bool) : eqS (nS (uS a b)) (mS (nS a) (nS b)) = true := eqS_true fun i _ => by
  repeat (first | unfold uS | unfold mS | unfold dS | unfold nS)
  (try dsimp only)
  all_goals (cases a i <;> cases b i <;> cases c i <;> rfl)
theorem q9 (a b : Nat → Bool) : eqS (dS b a) (mS b (nS a)) = true := eqS_true fun _ _ => rfl
theorem q10 (a : Nat → Bool) : eqS (uS a (nS a)) allS = true := eqS_true fun i hi => by
  rw [show allS i = true from all_rng i hi]; simp only [uS, nS]; cases a i <;> rfl
theorem q11 (a : Nat → Bool) : eqS (mS a (nS a)) (fun _ => false) = true := eqS_true fun i _ => by
  simp only [mS, nS]; cases a i <;> rfl
theorem q12 (a : Nat → Bool) : eqS (uS a a) a = true := eqS_true fun i _ => by
  unfold uS; simp
theorem q13 (a : Nat → Bool) : eqS (mS a a) a = true := eqS_true fun i _ => by
  unfold mS; simp
theorem q14 (a b : Nat → Bool) : eqS (uS a (mS a b)) a = true := eqS_true fun i _ => by
  unfold uS mS; cases a i <;> cases b i <;> simp_all
theorem q15 (a b : Nat → Bool) : eqS (mS a (uS a b)) a = true := eqS_true fun i _ => by
  unfold mS uS; cases a i <;> cases b i <;> simp_all
/-- Block B is a variable of sets. -/
def IsSet (W : World) (B : Nat) : Prop := ∃ p, SA W B p
theorem IsSet.new (W : World) (B : Nat) (h : B = W.heap.size) : IsSet (W.alloc zeros) B := ⟨_, SA.zero' W B h⟩
theorem IsSet.alloc {W : World} {B : Nat} (h : IsSet W B) (o : Obj) : IsSet (W.alloc o) B := h.imp fun _ h => h.alloc o
theorem IsSet.drew {W : World} {B : Nat} (h : IsSet W B) : IsSet W.drew B := h
theorem IsSet.below {W W' : World} {B : Nat} (h : IsSet W B) (hb : Below W.heap.size W W') : IsSet W' B := h.imp fun _ h => h.below hb h.lt
theorem IsSet.setRow {W : World} {B C : Nat} (h : IsSet W B) (p : Nat → Bool) : IsSet (W.setRow C (sc p)) B := by
  obtain ⟨q, h⟩ := h
  by_cases e : B = C
  · subst e; exact ⟨p, h.setRow p⟩
  · exact ⟨q, (PutAt.setRow W C _).sa e h⟩
theorem run_setStore {W : World} {B : Nat} (h : IsSet W B) (q : Nat → Bool) : (storeCells ⟨B, 0, none⟩ (sc q).toList 0).run Try.prog W = .ok () (W.setRow B (sc q)) := h.choose_spec.store q
theorem IsSet.one (W : World) : IsSet (W.alloc zeros) W.heap.size := IsSet.new _ _ rfl
theorem IsSet.oneA (W : World) : IsSet ((W.alloc zeros).alloc zeros) W.heap.size := (IsSet.one W).alloc _
theorem IsSet.two (W : World) : IsSet ((W.alloc zeros).alloc zeros) (W.heap.size + 1) := IsSet.new _ _ (by simp)
theorem isSet_a (W : World) : IsSet (W.alloc (.cells #[.int .u64 0, .int .u64 0, .int .u64 0, .int .u64 0] 26)) W.heap.size = True := eq_true (IsSet.new W _ rfl)
theorem isSet_b (W : World) : IsSet ((W.alloc (.cells #[.int .u64 0, .int .u64 0, .int .u64 0, .int .u64 0] 26)).alloc (.cells #[.int .u64 0, .int .u64 0, .int .u64 0, .int .u64 0] 26)) W.heap.size = True := eq_true ((IsSet.new W _ rfl).alloc _)
theorem isSet_c (W : World) : IsSet ((W.alloc (.cells #[.int .u64 0, .int .u64 0, .int .u64 0, .int .u64 0] 26)).alloc (.cells #[.int .u64 0, .int .u64 0, .int .u64 0, .int .u64 0] 26)) (W.heap.size + 1) = True := eq_true (IsSet.new _ _ (by simp))
theorem isSet_row {W : World} {B C : Nat} (p : Nat → Bool) (h : IsSet W B) : IsSet (W.setRow C (sc p)) B = True := eq_true (h.setRow p)
attribute [local go_sem] run_setStore isSet_a isSet_b isSet_c isSet_row
theorem SA.rowOther {W : World} {B C : Nat} {p : Nat → Bool} (h : SA W B p) (q : Nat → Bool) (hne : B ≠ C) : SA (W.setRow C (sc q)) B p := (PutAt.setRow W C _).sa hne h
/-- What the law's second region leaves. -/
def CutP (n : Nat) (w : World) (p q : Nat → Bool) (s9 s10 : Value) (wx : World) : Prop :=
  ∃ B9 B10 : Nat, s9 = .pointer (some ⟨B9, 0, none⟩) ∧ s10 = .pointer (some ⟨B10, 0, none⟩) ∧ SA wx B9 p ∧ SA wx B10 q ∧ Below n w wx
theorem cut_close {n : Nat} {w X : World} {B9 B10 : Nat} (p q : Nat → Bool) (h9 : IsSet X B9) (h10 : IsSet X B10) (hne : B9 ≠ B10) (hb : Below n w X) (h1 : n ≤ B9) (h2 : n ≤ B10) :
    CutP n w p q (.pointer (some ⟨B9, 0, none⟩)) (.pointer (some ⟨B10, 0, none⟩)) ((X.setRow B9 (sc p)).setRow B10 (sc q)) := by
  obtain ⟨u, h9⟩ := h9
  obtain ⟨v, h10⟩ := h10
  have s9 := h9.setRow p
  have s10 := (PutAt.setRow X B9 (sc p)).sa (Ne.symm hne) h10
  exact ⟨B9, B10, rfl, rfl, (PutAt.setRow _ B10 (sc q)).sa hne s9, s10.setRow q, (hb.trans ((PutAt.setRow X B9 _).below h1)).trans ((PutAt.setRow _ B10 _).below h2)⟩
/-- Two sets lie in a world that is as w3 was, below n. -/
structure St (w3 : World) (A B : Nat) (a b : Nat → Bool) (Y : World) : Prop where
  a : SA Y A a
  b : SA Y B b
  lt : A < w3.heap.size ∧ B < w3.heap.size
  bel : Below w3.heap.size w3 Y
section
variable {w3 Y Z : World} {A B : Nat} {a b : Nat → Bool}
theorem St.alloc (h : St w3 A B a b Y) (o : Obj) : St w3 A B a b (Y.alloc o) := ⟨h.a.alloc o, h.b.alloc o, h.lt, h.bel.alloc h.bel.size o⟩
theorem St.below (h : St w3 A B a b Y) (hb : Below Y.heap.size Y Z) : St w3 A B a b Z := ⟨h.a.below hb h.a.lt, h.b.below hb h.b.lt, h.lt, h.bel.trans (hb.mono h.bel.size)⟩
theorem St.drew (h : St w3 A B a b Y) : St w3 A B a b Y.drew := ⟨h.a, h.b, h.lt, h.bel.drew⟩
theorem St.row (h : St w3 A B a b Y) (C : Nat) (q : Nat → Bool) (hC : w3.heap.size ≤ C) : St w3 A B a b (Y.setRow C (sc q)) :=
  ⟨h.a.rowOther q (by have := h.lt; omega), h.b.rowOther q (by have := h.lt; omega), h.lt, h.bel.trans ((PutAt.setRow Y C _).below hC)⟩
theorem St.eight (h : St w3 A B a b Y) : Y.cell? ⟨A, 0, none⟩ = some (wv a 0) ∧ Y.cell? ⟨A, 1, none⟩ = some (wv a 1) ∧ Y.cell? ⟨A, 2, none⟩ = some (wv a 2) ∧ Y.cell? ⟨A, 3, none⟩ = some (wv a 3) ∧
    Y.cell? ⟨B, 0, none⟩ = some (wv b 0) ∧ Y.cell? ⟨B, 1, none⟩ = some (wv b 1) ∧ Y.cell? ⟨B, 2, none⟩ = some (wv b 2) ∧ Y.cell? ⟨B, 3, none⟩ = some (wv b 3) :=
  ⟨h.a.four.1, h.a.four.2.1, h.a.four.2.2.1, h.a.four.2.2.2, h.b.four⟩
end
set_option maxHeartbeats 800000 in
set_option maxRecDepth 100000 in
theorem laws_any (a b c : Nat → Bool) (w : World) : Calls Try.prog 5 #[sv a, sv b, sv c] w fun e w' => e = .returned (.bool true) ∧ Below w.heap.size w w' := by
  obtain ⟨ha, hb, hc, B0⟩ := three_sets w a b c
  have RG := Lib.hid ran_any
  go_enter Try.func5, Try.ntmps5
  go_wp2_with (first
    | (go_at_call 11; refine (RG.out _).mono ?_; rintro e w2 ⟨rfl, hb2⟩
       have a2 := ha.below hb2 ha.lt
       have b2 := hb.below hb2 hb.lt
       have c2 := hc.below hb2 hc.lt
       have B2 := B0.trans (hb2.mono B0.size)
       have z2 := SA.zero w2
       have lt2 := c2.lt
       clear hb2 ha hb hc B0)
    | (refine wpList_put rfl _ _ rfl _ rfl _ allS rfl z2 ?_; (intro w3 y3 p3; have a3 := p3.sa (by omega) (a2.alloc zeros); have b3 := p3.sa (by omega) (b2.alloc zeros); have c3 := p3.sa (by omega) (c2.alloc zeros); have B3 := (B2.alloc B2.size zeros).trans (p3.below B2.size); clear a2 b2 c2 z2 B2 p3))
    )
  go_cut [9, 10] from 16 to 21 (fun s9 s10 wx => CutP w3.heap.size w3 (uS a b) (mS a b) s9 s10 wx)
  case first =>
    have S0 : St w3 w.heap.size (w.heap.size + 1) a b w3 := ⟨a3, b3, ⟨a3.lt, b3.lt⟩, Below.refl _ w3⟩
    have S3 := S0.drew
    go_region_held3 (fun w' => w'.cell? ⟨w.heap.size, 0, none⟩ = some (wv a 0) ∧ w'.cell? ⟨w.heap.size, 1, none⟩ = some (wv a 1) ∧ w'.cell? ⟨w.heap.size, 2, none⟩ = some (wv a 2) ∧ w'.cell? ⟨w.heap.size, 3, none⟩ = some (wv a 3) ∧
        w'.cell? ⟨w.heap.size + 1, 0, none⟩ = some (wv b 0) ∧ w'.cell? ⟨w.heap.size + 1, 1, none⟩ = some (wv b 1) ∧ w'.cell? ⟨w.heap.size + 1, 2, none⟩ = some (wv b 2) ∧ w'.cell? ⟨w.heap.size + 1, 3, none⟩ = some (wv b 3))
      (first | (with_reducible exact (S6).eight) | (with_reducible exact (S6.alloc _).eight) | (with_reducible exact ((S6.alloc _).alloc _).eight) | (with_reducible exact (S5).eight) | (with_reducible exact (S5.alloc _).eight) | (with_reducible exact ((S5.alloc _).alloc _).eight) | (with_reducible exact (S3).eight) | (with_reducible exact (S0.alloc _).drew.eight) | (with_reducible exact ((S0.alloc _).alloc _).drew.eight)  | (with_reducible exact ((S6.row _ _ (by omega))).eight) | (with_reducible exact (((S6.row _ _ (by omega)).row _ _ (by omega))).eight) | (with_reducible exact (((S6.alloc _).row _ _ (by omega))).eight) | (with_reducible exact ((((S6.alloc _).row _ _ (by omega)).row _ _ (by omega))).eight) | (with_reducible exact ((((S6.alloc _).alloc _).row _ _ (by omega))).eight) | (with_reducible exact (((((S6.alloc _).alloc _).row _ _ (by omega)).row _ _ (by omega))).eight))
      (first
        | (go_at_call 20; refine (uni_any a b _).mono ?_; rintro e w5 ⟨rfl, hb5⟩
           (first | (with_reducible have S5 := St.below S3 hb5) | (with_reducible have S5 := St.below ((S0.alloc _).drew) hb5) | (with_reducible have S5 := St.below (((S0.alloc _).alloc _).drew) hb5))
           have l5 := S5.bel.size
           (try (with_reducible have t5 : IsSet w5 w3.heap.size := IsSet.below (IsSet.one w3).drew hb5))
           (try (with_reducible have t5 : IsSet w5 w3.heap.size := IsSet.below (IsSet.oneA w3).drew hb5))
           (try (with_reducible have v5 : IsSet w5 (w3.heap.size + 1) := IsSet.below (IsSet.two w3).drew hb5))
           skip)
        | (go_at_call 22; refine (mee_any a b _).mono ?_; rintro e w6 ⟨rfl, hb6⟩
           (first | (with_reducible have S6 := St.below S5 hb6) | (with_reducible have S6 := St.below (S5.alloc _) hb6) | (with_reducible have S6 := St.below ((S5.alloc _).alloc _) hb6))
           have l6 := S6.bel.size
           have m6 : w5.heap.size ≤ w6.heap.size := Nat.le_trans (by first | exact Nat.le_refl _ | (simp only [World.size_alloc]; omega)) hb6.size
           (try (with_reducible have t6 : IsSet w6 w3.heap.size := IsSet.below t5 hb6))
           (try (with_reducible have t6 : IsSet w6 w3.heap.size := IsSet.below (t5.alloc _) hb6))
           (try (with_reducible have v6 : IsSet w6 (w3.heap.size + 1) := IsSet.below v5 hb6))
           (try (with_reducible have x6 : IsSet w6 w5.heap.size := IsSet.below (IsSet.one w5) hb6))
           (try (with_reducible have x6 : IsSet w6 w5.heap.size := IsSet.below (IsSet.oneA w5) hb6))
           (try (with_reducible have y6 : IsSet w6 (w5.heap.size + 1) := IsSet.below (IsSet.two w5) hb6))
           (try have t6' := t6.alloc zeros)
           (try have v6' := v6.alloc zeros)
           (try have x6' := x6.alloc zeros)
           (try have y6' := y6.alloc zeros)))
    all_goals
      go_wp2_with fail
      go_meet
      have g5 := hb5.size
      have g6 := hb6.size
      (try simp only [World.size_alloc, heap_drew] at g5)
      (try simp only [World.size_alloc] at g6)
      refine cut_close _ _ ?_ ?_ ?_ ?_ ?_ ?_
      · first | (with_reducible assumption) | exact IsSet.one _ | exact IsSet.oneA _ | exact IsSet.two _
      · first | (with_reducible assumption) | exact IsSet.one _ | exact IsSet.oneA _ | exact IsSet.two _
      · omega
      · first | (with_reducible exact S6.bel) | (with_reducible exact (S6.alloc _).bel) | (with_reducible exact ((S6.alloc _).alloc _).bel)
      · omega
      · omega
  case rest =>
    obtain ⟨B9, B10, rfl, rfl, x9, x10, HC⟩ := hcut
    have x3 := a3.below HC a3.lt
    have x4 := b3.below HC b3.lt
    have x5 := c3.below HC c3.lt
    have x7 := y3.below HC y3.lt
    have HB := B3.trans (HC.mono B3.size)
    clear HC a3 b3 c3 y3 B3
    have e1 := q1 a b c
    have e2 := q2 a b c
    have e3 := q3 a b c
    have e4 := q4 a b c
    have e5 := q5 a b c
    have e6 := q6 a b c
    go_wp2
    refine wp_region_below (w := wc) (Nat.le_refl _) (by kernel_rfl) (by kernel_rfl) ?_
    repeat (first
      | go_big_quiet_skip
      | (go_big_quiet_want; (first
          | ((first | refine quiet_get _ rfl _ rfl _ x3 x3.lt ?_ | refine quiet_get _ rfl _ rfl _ x4 x4.lt ?_ | refine quiet_get _ rfl _ rfl _ x5 x5.lt ?_ | refine quiet_get _ rfl _ rfl _ x7 x7.lt ?_ | refine quiet_get _ rfl _ rfl _ x9 x9.lt ?_ | refine quiet_get _ rfl _ rfl _ x10 x10.lt ?_); simp only [Act.put, List.setIfInBounds_toArray, List.set_cons_succ, List.set_cons_zero]; go_big_quiet_on)
          | (go_big_quiet_op; (first
              | go_big_quiet_on
              | (refine ⟨_, fun _ _ => rfl, ?_⟩; go_big_quiet_on)
              | (apply Exists.intro; refine ⟨fun w9 hw9 => ?_, ?_⟩; (focus (first | (go_at_call 20; exact Calls.quiet_below (uni_any _ _ _) hw9 (Nat.le_refl _) (fun _ _ h => h)) | (go_at_call 22; exact Calls.quiet_below (mee_any _ _ _) hw9 (Nat.le_refl _) (fun _ _ h => h)) | (go_at_call 24; exact Calls.quiet_below (min_any _ _ _) hw9 (Nat.le_refl _) (fun _ _ h => h)))); go_big_quiet_on))))))
    refine wpQuiet_nil ?_
    intro w4 hb4
    replace HB := HB.trans (hb4.mono HB.size)
    replace x3 := x3.below hb4 x3.lt
    replace x4 := x4.below hb4 x4.lt
    replace x5 := x5.below hb4 x5.lt
    replace x7 := x7.below hb4 x7.lt
    replace x9 := x9.below hb4 x9.lt
    replace x10 := x10.below hb4 x10.lt
    go_wp2
    refine wp_region_below (w := w4) (Nat.le_refl _) (by kernel_rfl) (by kernel_rfl) ?_
    repeat (first
      | go_big_quiet_skip
      | (go_big_quiet_want; (first
          | ((first | refine quiet_get _ rfl _ rfl _ x3 x3.lt ?_ | refine quiet_get _ rfl _ rfl _ x4 x4.lt ?_ | refine quiet_get _ rfl _ rfl _ x5 x5.lt ?_ | refine quiet_get _ rfl _ rfl _ x7 x7.lt ?_ | refine quiet_get _ rfl _ rfl _ x9 x9.lt ?_ | refine quiet_get _ rfl _ rfl _ x10 x10.lt ?_); simp only [Act.put, List.setIfInBounds_toArray, List.set_cons_succ, List.set_cons_zero]; go_big_quiet_on)
          | (go_big_quiet_op; (first
              | go_big_quiet_on
              | (refine ⟨_, fun _ _ => rfl, ?_⟩; go_big_quiet_on)
              | (apply Exists.intro; refine ⟨fun w9 hw9 => ?_, ?_⟩; (focus (first | (go_at_call 20; exact Calls.quiet_below (uni_any _ _ _) hw9 (Nat.le_refl _) (fun _ _ h => h)) | (go_at_call 22; exact Calls.quiet_below (mee_any _ _ _) hw9 (Nat.le_refl _) (fun _ _ h => h)) | (go_at_call 24; exact Calls.quiet_below (min_any _ _ _) hw9 (Nat.le_refl _) (fun _ _ h => h)))); go_big_quiet_on))))))
    refine wpQuiet_nil ?_
    intro w5 hb5
    replace HB := HB.trans (hb5.mono HB.size)
    replace x3 := x3.below hb5 x3.lt
    replace x4 := x4.below hb5 x4.lt
    replace x5 := x5.below hb5 x5.lt
    replace x7 := x7.below hb5 x7.lt
    replace x9 := x9.below hb5 x9.lt
    replace x10 := x10.below hb5 x10.lt
    have NG := Lib.hid (fun w => neg_any a w)
    clear e1 e2 e3 e4 e5 e6
    have e7 := q7 a
    have e8 := q8 a b c
    have e9 := q9 a b
    have e10 := q10 a
    have e11 := q11 a
    have e12 := q12 a
    have e13 := q13 a
    have e14 := q14 a b
    have e15 := q15 a b
    go_wp2_with (first
      | (refine wpList_get rfl _ rfl _ rfl _ x3 ?_)
      | (go_at_call 26; refine (NG.out _).mono ?_; rintro e w6 ⟨rfl, hb6⟩
         replace HB := HB.trans (hb6.mono HB.size)
         replace x3 := x3.below hb6 x3.lt
         replace x4 := x4.below hb6 x4.lt
         replace x5 := x5.below hb6 x5.lt
         replace x7 := x7.below hb6 x7.lt
         replace x9 := x9.below hb6 x9.lt
         replace x10 := x10.below hb6 x10.lt
         have z6 := SA.zero w6
         have hl6 : B9 < w6.heap.size ∧ B10 < w6.heap.size ∧ w.heap.size < w6.heap.size ∧ w.heap.size + 1 < w6.heap.size ∧ w2.heap.size < w6.heap.size := ⟨x9.lt, x10.lt, x3.lt, x4.lt, x7.lt⟩)
      | (refine wpList_put rfl _ _ rfl _ rfl _ (nS a) rfl z6 ?_; (intro w7 x11 p7; have y3 := p7.sa (by omega) (x3.alloc zeros); have y4 := p7.sa (by omega) (x4.alloc zeros); have y7 := p7.sa (by omega) (x7.alloc zeros); have y9 := p7.sa (by omega) (x9.alloc zeros); have y10 := p7.sa (by omega) (x10.alloc zeros); replace HB := (HB.alloc HB.size zeros).trans (p7.below HB.size)))
      )
    clear x3 x4 x5 x7 x9 x10
    simp only [Act.put]
    refine wp_region_below (w := w7) (Nat.le_refl _) (by kernel_rfl) (by kernel_rfl) ?_
    repeat (first
      | go_big_quiet_skip
      | (go_big_quiet_want; (first
          | ((first | refine quiet_get _ rfl _ rfl _ y3 y3.lt ?_ | refine quiet_get _ rfl _ rfl _ y4 y4.lt ?_ | refine quiet_get _ rfl _ rfl _ y7 y7.lt ?_ | refine quiet_get _ rfl _ rfl _ y9 y9.lt ?_ | refine quiet_get _ rfl _ rfl _ y10 y10.lt ?_ | refine quiet_get _ rfl _ rfl _ x11 x11.lt ?_); simp only [Act.put, List.setIfInBounds_toArray, List.set_cons_succ, List.set_cons_zero]; go_big_quiet_on)
          | (go_big_quiet_op; (first
              | go_big_quiet_on
              | (refine ⟨_, fun _ _ => rfl, ?_⟩; go_big_quiet_on)
              | (apply Exists.intro; refine ⟨fun w9 hw9 => ?_, ?_⟩; (focus (first | (go_at_call 20; exact Calls.quiet_below (uni_any _ _ _) hw9 (Nat.le_refl _) (fun _ _ h => h)) | (go_at_call 22; exact Calls.quiet_below (mee_any _ _ _) hw9 (Nat.le_refl _) (fun _ _ h => h)) | (go_at_call 24; exact Calls.quiet_below (min_any _ _ _) hw9 (Nat.le_refl _) (fun _ _ h => h)) | (go_at_call 26; exact Calls.quiet_below (neg_any _ _) hw9 (Nat.le_refl _) (fun _ _ h => h)))); go_big_quiet_on))))))
    refine wpQuiet_nil ?_
    intro w8 hb8
    replace HB := HB.trans (hb8.mono HB.size)
    replace y3 := y3.below hb8 y3.lt
    replace y4 := y4.below hb8 y4.lt
    replace y7 := y7.below hb8 y7.lt
    replace y9 := y9.below hb8 y9.lt
    replace y10 := y10.below hb8 y10.lt
    replace x11 := x11.below hb8 x11.lt
    go_wp2
    refine wp_region_below (w := w8) (Nat.le_refl _) (by kernel_rfl) (by kernel_rfl) ?_
    repeat (first
      | go_big_quiet_skip
      | (go_big_quiet_want; (first
          | ((first | refine quiet_get _ rfl _ rfl _ y3 y3.lt ?_ | refine quiet_get _ rfl _ rfl _ y4 y4.lt ?_ | refine quiet_get _ rfl _ rfl _ y7 y7.lt ?_ | refine quiet_get _ rfl _ rfl _ y9 y9.lt ?_ | refine quiet_get _ rfl _ rfl _ y10 y10.lt ?_ | refine quiet_get _ rfl _ rfl _ x11 x11.lt ?_); simp only [Act.put, List.setIfInBounds_toArray, List.set_cons_succ, List.set_cons_zero]; go_big_quiet_on)
          | (go_big_quiet_op; (first
              | go_big_quiet_on
              | (refine ⟨_, fun _ _ => rfl, ?_⟩; go_big_quiet_on)
              | (apply Exists.intro; refine ⟨fun w9 hw9 => ?_, ?_⟩; (focus (first | (go_at_call 20; exact Calls.quiet_below (uni_any _ _ _) hw9 (Nat.le_refl _) (fun _ _ h => h)) | (go_at_call 22; exact Calls.quiet_below (mee_any _ _ _) hw9 (Nat.le_refl _) (fun _ _ h => h)) | (go_at_call 24; exact Calls.quiet_below (min_any _ _ _) hw9 (Nat.le_refl _) (fun _ _ h => h)) | (go_at_call 9; exact Calls.quiet_below (shown_any _) hw9 (Nat.le_refl _) (fun _ _ h => h)))); go_big_quiet_on))))))
    refine wpQuiet_nil ?_
    intro w9 hb9
    replace HB := HB.trans (hb9.mono HB.size)
    go_wp2
    go_ret
    exact ⟨rfl, HB⟩
end Go.Proofs.Ytedbhjladpfafaa
