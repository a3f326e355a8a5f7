/- Layer 1: List. -/
import Derived.Test.YtoapfldmkpobmaaGreatDoorV
import Derived.Test.YtoapfldmkpobmaaGreatDoorE
import Derived.StillTailTactics
namespace Go.Proofs.YtoapfldmkpobmaaGreatDoor
open Go.RowKit
def runTail : Int → List Int → Nat
  | _, [] => 0
  | x, y :: r => if y = x + 1 then runTail y r + 1 else 0
def runLen : List Int → Nat
  | [] => 0
  | x :: r => runTail x r + 1
theorem runTail_le (r : List Int) : ∀ x, runTail x r ≤ r.length := by
  induction r with
  | nil => intro x; simp [runTail]
  | cons y r ih => intro x; simp only [runTail]; split; have := ih y; simp; omega; simp
theorem runLen_le (l : List Int) : runLen l ≤ l.length := by
  cases l with
  | nil => simp [runLen]
  | cons x r => simp only [runLen, List.length_cons]; have := runTail_le r x; omega
def wrS (a b : Int) : List UInt8 := if a = b then Lib.itoa a else Lib.itoa a ++ [45] ++ Lib.itoa b
/-- A slice of numbers in memory. -/
def ISl (W : World) (v : Value) (xs : List Int) : Prop :=
  ∃ p c, v = .slice p xs.length c ∧ ∀ i z, xs[i]? = some z → ∃ b o, p = some ⟨b, o, none⟩ ∧ W.cell? ⟨b, o + i, none⟩ = some (.int .i64 z)
theorem drop_at {xs : List Int} {k : Nat} {z : Int} (h : xs[k]? = some z) : xs.drop k = z :: xs.drop (k + 1) := by
  have hk := (List.getElem?_eq_some_iff.1 h).1
  rw [List.drop_eq_getElem_cons hk, (List.getElem?_eq_some_iff.1 h).2]
set_option maxRecDepth 100000 in
theorem runEnd_any (v : Value) (xs : List Int) (f : Nat) (w : World) (hv : ISl w v xs) (hf : f < xs.length) (hl : xs.length ≤ 1000000) (hr : ∀ z ∈ xs, 0 ≤ z ∧ z ≤ 1000000000) :
    Calls Tryz.prog 15 #[v, .int .i64 f] w fun e w' => e = .returned (.int .i64 ((f + runLen (xs.drop f) : Nat) : Int)) ∧ ∃ d, w' = w.drewN d := by
  obtain ⟨p, c, rfl, hv⟩ := hv
  obtain ⟨n, hn⟩ : ∃ n, n = xs.length := ⟨_, rfl⟩
  rw [← hn] at hf hl ⊢
  obtain ⟨z0, hz0⟩ : ∃ z, xs[f]? = some z := ⟨_, List.getElem?_eq_getElem (by rw [← hn]; exact hf)⟩
  obtain ⟨R, hR⟩ : ∃ R, R = runLen (xs.drop f) := ⟨_, rfl⟩
  have h0 : R = 1 + runTail z0 (xs.drop (f + 1)) := by rw [hR, drop_at hz0]; simp only [runLen]; omega
  rw [← hR]
  have HV := Lib.hid hv
  have HN := Lib.hid hn
  have HR := Lib.hid hr
  have HZ0 := Lib.hid hz0
  have H0 := Lib.hid h0
  clear hv hn hr hz0 h0 hR
  go_enter Tryz.func15, Tryz.ntmps15
  go_wp2
  go_loopw [5] (fun i wr => ∃ k : Nat, k ≤ n ∧ f < k ∧ i = .int .i64 k ∧ (∃ z, Hid (xs[k - 1]? = some z) ∧ Hid (f + R = k + runTail z (xs.drop k))) ∧ ∃ d, wr = w.drewN d) (fun i _ => n - (intOf i).toNat)
  case atStart => exact ⟨f + 1, by omega, by omega, by go_num, ⟨z0, HZ0, Lib.hid (by rw [H0.out]; omega)⟩, 0, rfl⟩
  case round =>
    obtain ⟨k, hk, hfk, rfl, ⟨z, hz, hrun⟩, d, rfl⟩ := hrel
    by_cases hlt : k < n
    · have hltb : decide ((k : Int) < (n : Int)) = true := decide_eq_true (by omega)
      obtain ⟨y, hy⟩ : ∃ y, xs[k]? = some y := ⟨_, List.getElem?_eq_getElem (by rw [← HN.out]; exact hlt)⟩
      obtain ⟨b, o, rfl, y0⟩ := HV.out k y hy
      obtain ⟨b', o', e, zz0⟩ := HV.out (k - 1) z hz.out
      cases e
      obtain ⟨z1, z2⟩ := HR.out z (List.mem_of_getElem? hz.out)
      have hT : runTail z (xs.drop k) = if y = z + 1 then runTail y (xs.drop (k + 1)) + 1 else 0 := by rw [drop_at hy]; rfl
      have HT := Lib.hid hT
      have HY := Lib.hid hy
      clear hT hy
      have hk1 : ((k : Int) - 1).toNat = k - 1 := by omega
      by_cases hyz : y = z + 1
      · have heq : (y == z + 1) = true := beq_iff_eq.2 hyz
        have HYZ := Lib.hid hyz
        clear hyz
        go_wp2
        go_quiet (fail)
        go_wp2
        go_roundw
        case rel => exact ⟨k + 1, by omega, by omega, by go_num, ⟨y, Lib.hid HY.out, Lib.hid (by rw [hrun.out, HT.out, if_pos HYZ.out]; omega)⟩, _, rfl⟩
        case measure => simp [intOf]; omega
      · have heq : (y == z + 1) = false := beq_eq_false_iff_ne.2 hyz
        have hE := Lib.hid (show k = f + R by rw [hrun.out, HT.out, if_neg hyz]; omega)
        clear hyz
        go_wp2
        go_quiet (fail)
        go_wp2
        go_ret
        exact ⟨ret_int (by rw [hE.out]), _, drewN_drewN _ _ _⟩
    · have hltb : decide ((k : Int) < (n : Int)) = false := decide_eq_false (by omega)
      have hE := Lib.hid (show k = f + R by
        have h := hrun.out
        rw [List.drop_of_length_le (by rw [← HN.out]; omega)] at h
        simp only [runTail] at h; omega)
      go_wp2
      go_quiet (fail)
      go_wp2
      go_ret
      exact ⟨ret_int (by rw [hE.out]), _, drewN_drewN _ _ _⟩
theorem ret_bs {a b : List UInt8} (h : a = b) : Ending.returned (.string ⟨a.toArray⟩) = .returned (.string ⟨b.toArray⟩) := by rw [h]
theorem writeRun_any (a b : Int) (ha : 0 ≤ a ∧ a ≤ 1000000000) (hb : 0 ≤ b ∧ b ≤ 1000000000) (w : World) (hw : LW w) :
    Calls Tryz.prog 16 #[.int .i64 a, .int .i64 b] w fun e w' => e = .returned (.string ⟨(wrS a b).toArray⟩) ∧ Below w.heap.size w w' := by
  have D1 := Lib.hid (digits_any a (by omega) (by omega) w hw)
  have D2 := Lib.hid (fun w' (h : Below w.heap.size w w') => digits_any b (by omega) (by omega) w' (hw.below h))
  by_cases h : a = b
  · have he : (a == b) = true := beq_iff_eq.2 h
    have H := Lib.hid h
    clear h
    go_enter Tryz.func16, Tryz.ntmps16
    go_wp2_with (go_at_call 31; refine D1.out.mono ?_; rintro e w' ⟨rfl, hb⟩)
    go_ret
    exact ⟨ret_bs (by unfold wrS; rw [if_pos H.out]), by assumption⟩
  · have he : (a == b) = false := beq_eq_false_iff_ne.2 h
    have la : (Lib.itoa a).length ≤ 21 := Lib.itoa_length_le _ (by omega) (by omega)
    have lb : (Lib.itoa b).length ≤ 21 := Lib.itoa_length_le _ (by omega) (by omega)
    have H := Lib.hid h
    clear h
    go_enter Tryz.func16, Tryz.ntmps16
    go_wp2_with (go_at_call 31; first | (refine D1.out.mono ?_; clear D1; rintro e w1 ⟨rfl, hb1⟩) | (refine (D2.out _ hb1).mono ?_; rintro e w2 ⟨rfl, hb2⟩))
    go_ret
    refine ⟨?_, hb1.trans (hb2.mono hb1.size)⟩
    unfold wrS
    rw [if_neg H.out, ← str_app, ← str_app]
    rfl
def runsL : Nat → List Int → List (List UInt8)
  | 0, _ => []
  | _ + 1, [] => []
  | f + 1, x :: r => wrS x ((x :: r).getD (runLen (x :: r) - 1) 0) :: runsL f ((x :: r).drop (runLen (x :: r)))
def runsG (l : List Int) : List (List UInt8) := runsL (l.length + 1) l
theorem runsL_more : ∀ (f : Nat) (l : List Int), l.length < f → runsL f l = runsG l := by
  intro f
  induction f using Nat.strongRecOn with
  | _ f ih =>
    intro l hl
    match f, l, hl with
    | f + 1, [], hl => rfl
    | f + 1, x :: r, hl =>
      unfold runsG
      simp only [runsL]
      congr 1
      have h := runLen_le (x :: r)
      have h1 : 1 ≤ runLen (x :: r) := by simp only [runLen]; omega
      have hd : ((x :: r).drop (runLen (x :: r))).length < (x :: r).length := by rw [List.length_drop]; simp only [List.length_cons] at *; omega
      rw [ih f (by omega) _ (by omega), ih (x :: r).length (by omega) _ (by omega)]
theorem runsG_cons (x : Int) (r : List Int) : runsG (x :: r) = wrS x ((x :: r).getD (runLen (x :: r) - 1) 0) :: runsG ((x :: r).drop (runLen (x :: r))) := by
  have : runsG (x :: r) = runsL ((x :: r).length + 1) (x :: r) := rfl
  rw [this]
  simp only [runsL]
  congr 1
  have h1 : 1 ≤ runLen (x :: r) := by simp only [runLen]; omega
  exact runsL_more _ _ (by rw [List.length_drop]; simp only [List.length_cons] at *; omega)
def inR (xs : List Int) : Bool := xs.all (fun z => decide (0 ≤ z) && decide (z ≤ 1000000000))
def ascL (xs : List Int) : Bool := (List.range (xs.length - 1)).all (fun i => decide (xs.getD i 0 < xs.getD (i + 1) 0))
def listE (xs : List Int) : Int := if 500 < xs.length then 3 else if inR xs then (if ascL xs then 0 else 6) else 7
def listS (xs : List Int) : List UInt8 := if listE xs = 0 then (if xs = [] then [45] else Lib.join (runsG xs) [44]) else []
theorem wrS_len (a b : Int) (ha : 0 ≤ a ∧ a ≤ 1000000000) (hb : 0 ≤ b ∧ b ≤ 1000000000) : (wrS a b).length ≤ 43 := by
  have la : (Lib.itoa a).length ≤ 21 := Lib.itoa_length_le _ (by omega) (by omega)
  have lb : (Lib.itoa b).length ≤ 21 := Lib.itoa_length_le _ (by omega) (by omega)
  unfold wrS
  split
  · omega
  · simp only [List.length_append, List.length_cons, List.length_nil]; omega
end Go.Proofs.YtoapfldmkpobmaaGreatDoor
