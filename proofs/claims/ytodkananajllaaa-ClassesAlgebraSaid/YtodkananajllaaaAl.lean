/- Layer 3: both algebras agree. -/
import Derived.Test.YtodkananajllaaaSm
import Derived.Deep.RegionHeld3
namespace Go.Proofs.Ytodkananajllaaa
open Go.RowKit
attribute [local go_sem] eq4 guard4 eqS_self
theorem conv_br {W : World} {v : Value} {xs : List Nat} (h : BR W v xs) : (convert 22 9 v).run Try.prog W = .ok (.string ⟨(xs.map UInt8.ofNat).toArray⟩) W := by
  obtain ⟨p, c, rfl, hc, hx⟩ := h
  rcases Nat.eq_zero_or_pos xs.length with h0 | h0
  · have : xs = [] := List.eq_nil_of_length_eq_zero h0
    subst this
    cases p with
    | none => exact Lib.run_convert_nil_bytes W _ _ 5 c Try.underlying22 Try.underlying5 Try.underlying9
    | some a => exact run_convert_bytes_back (P := Try.prog) W 22 9 5 a c [] Try.underlying22 Try.underlying5 Try.underlying9 (fun j hj => absurd hj (by simp))
  · obtain ⟨_, b, o, rfl, _⟩ := hx 0 xs[0] (List.getElem?_eq_getElem h0)
    have hlen : xs.length = (xs.map UInt8.ofNat).length := by simp
    rw [hlen]
    refine run_convert_bytes_back (P := Try.prog) W 22 9 5 ⟨b, o, none⟩ c (xs.map UInt8.ofNat) Try.underlying22 Try.underlying5 Try.underlying9 (fun j hj => ?_)
    have hj' : j < xs.length := by simpa using hj
    obtain ⟨h8, b', o', e, hcell⟩ := hx j xs[j] (List.getElem?_eq_getElem hj')
    cases e
    rw [Addr.add_mid, hcell]
    simp only [List.getElem_map]
    rw [ofNat_lt h8]
theorem runi_any (p q : Nat → Bool) (w : World) : Calls Try.prog 21 #[sv p, sv q] w (SetPost w (uS p q)) := runion_any p q w
theorem rmee_any (p q : Nat → Bool) (w : World) : Calls Try.prog 23 #[sv p, sv q] w (SetPost w (mS p q)) := rmeet_any p q w
theorem rmin_any (p q : Nat → Bool) (w : World) : Calls Try.prog 25 #[sv p, sv q] w (SetPost w (dS p q)) := rminus_any p q w
theorem rneg_any (p : Nat → Bool) (w : World) : Calls Try.prog 27 #[sv p] w (SetPost w (nS p)) := rnot_any p w
theorem rlst_any (p : Nat → Bool) (w : World) : Calls Try.prog 33 #[sv p] w fun e w' => ∃ v, e = .returned v ∧ BR w' v (listB p) ∧ Below w.heap.size w w' := rlist_any p w
theorem run_any (p : Nat → Bool) (w : World) : Calls Try.prog 35 #[sv p] w (RrPost w (runsB p)) := (runs_any p w).mono fun _ _ ⟨v, e, h, hb⟩ => ⟨v, e, RR.own h, hb⟩
def textL (p : Nat → Bool) : ByteArray := ⟨((listB p).map UInt8.ofNat).toArray⟩
theorem conv_li {W : World} {v : Value} {p : Nat → Bool} (h : BR W v (listB p)) : (convert 22 9 v).run Try.prog W = .ok (.string (textL p)) W := conv_br h
theorem runsB_len1 (p : Nat → Bool) : (runsB p).length ≤ 1000 := by
  have h1 := runsOf_len p (listB p)
  have h2 := listB_len p
  unfold runsB; omega
theorem hUni (p q : Nat → Bool) (w : World) : Calls Try.prog 20 #[.agg #[wv p 0, wv p 1, wv p 2, wv p 3], .agg #[wv q 0, wv q 1, wv q 2, wv q 3]] w (SetPost w (uS p q)) := uni_any p q w
theorem hRuni (p q : Nat → Bool) (w : World) : Calls Try.prog 21 #[.agg #[wv p 0, wv p 1, wv p 2, wv p 3], .agg #[wv q 0, wv q 1, wv q 2, wv q 3]] w (SetPost w (uS p q)) := runi_any p q w
theorem hMee (p q : Nat → Bool) (w : World) : Calls Try.prog 22 #[.agg #[wv p 0, wv p 1, wv p 2, wv p 3], .agg #[wv q 0, wv q 1, wv q 2, wv q 3]] w (SetPost w (mS p q)) := mee_any p q w
theorem hRmee (p q : Nat → Bool) (w : World) : Calls Try.prog 23 #[.agg #[wv p 0, wv p 1, wv p 2, wv p 3], .agg #[wv q 0, wv q 1, wv q 2, wv q 3]] w (SetPost w (mS p q)) := rmee_any p q w
theorem hMin (p q : Nat → Bool) (w : World) : Calls Try.prog 24 #[.agg #[wv p 0, wv p 1, wv p 2, wv p 3], .agg #[wv q 0, wv q 1, wv q 2, wv q 3]] w (SetPost w (dS p q)) := min_any p q w
theorem hRmin (p q : Nat → Bool) (w : World) : Calls Try.prog 25 #[.agg #[wv p 0, wv p 1, wv p 2, wv p 3], .agg #[wv q 0, wv q 1, wv q 2, wv q 3]] w (SetPost w (dS p q)) := rmin_any p q w
theorem hSub (p q : Nat → Bool) (w : World) : Calls Try.prog 28 #[.agg #[wv p 0, wv p 1, wv p 2, wv p 3], .agg #[wv q 0, wv q 1, wv q 2, wv q 3]] w fun e w' => e = .returned (.bool (subB p q)) ∧ Below w.heap.size w w' := sub_any p q w
theorem hRsub (p q : Nat → Bool) (w : World) : Calls Try.prog 29 #[.agg #[wv p 0, wv p 1, wv p 2, wv p 3], .agg #[wv q 0, wv q 1, wv q 2, wv q 3]] w fun e w' => e = .returned (.bool (subB p q)) ∧ Below w.heap.size w w' := rsub_any p q w
theorem hNeg (p : Nat → Bool) (w : World) : Calls Try.prog 26 #[.agg #[wv p 0, wv p 1, wv p 2, wv p 3]] w (SetPost w (nS p)) := neg_any p w
theorem hRneg (p : Nat → Bool) (w : World) : Calls Try.prog 27 #[.agg #[wv p 0, wv p 1, wv p 2, wv p 3]] w (SetPost w (nS p)) := rneg_any p w
theorem hCou (p : Nat → Bool) (w : World) : Calls Try.prog 30 #[.agg #[wv p 0, wv p 1, wv p 2, wv p 3]] w fun e w' => e = .returned (.int .i64 ((listB p).length : Nat)) ∧ Below w.heap.size w w' := count_any p w
theorem hRcou (p : Nat → Bool) (w : World) : Calls Try.prog 31 #[.agg #[wv p 0, wv p 1, wv p 2, wv p 3]] w fun e w' => e = .returned (.int .i64 ((listB p).length : Nat)) ∧ Below w.heap.size w w' := rcount_any p w
theorem hLst (p : Nat → Bool) (w : World) : Calls Try.prog 32 #[.agg #[wv p 0, wv p 1, wv p 2, wv p 3]] w fun e w' => ∃ v, e = .returned v ∧ BR w' v (listB p) ∧ Below w.heap.size w w' := lst_any p w
theorem hRlst (p : Nat → Bool) (w : World) : Calls Try.prog 33 #[.agg #[wv p 0, wv p 1, wv p 2, wv p 3]] w fun e w' => ∃ v, e = .returned v ∧ BR w' v (listB p) ∧ Below w.heap.size w w' := rlst_any p w
theorem hRun (p : Nat → Bool) (w : World) : Calls Try.prog 35 #[.agg #[wv p 0, wv p 1, wv p 2, wv p 3]] w (RrPost w (runsB p)) := run_any p w
theorem hRrun (p : Nat → Bool) (w : World) : Calls Try.prog 36 #[.agg #[wv p 0, wv p 1, wv p 2, wv p 3]] w (RrPost w (runsB p)) := rruns_any p w
set_option maxHeartbeats 0 in
set_option maxRecDepth 100000 in
theorem algebra_any (a b : Nat → Bool) (w : World) : Calls Try.prog 4 #[sv a, sv b] w fun e w' => e = .returned (.bool true) ∧ Below w.heap.size w w' := by
  obtain ⟨ha, hb, B0⟩ := two_new w a b
  have S : St ((w.alloc (setO a)).alloc (setO b)) w.heap.size (w.heap.size + 1) a b ((w.alloc (setO a)).alloc (setO b)) := ⟨ha, hb, ⟨ha.lt, hb.lt⟩, Below.refl _ _⟩
  have RL := Lib.hid (runsB_len1 a)
  clear ha hb
  go_enter Try.func4, Try.ntmps4
  go_wp2
  have S := S.drew
  dsimp only [List.append]
  go_region_held (fun w' => w'.cell? ⟨w.heap.size, 0, none⟩ = some (wv a 0) ∧ w'.cell? ⟨w.heap.size, 1, none⟩ = some (wv a 1) ∧ w'.cell? ⟨w.heap.size, 2, none⟩ = some (wv a 2) ∧ w'.cell? ⟨w.heap.size, 3, none⟩ = some (wv a 3) ∧
      w'.cell? ⟨w.heap.size + 1, 0, none⟩ = some (wv b 0) ∧ w'.cell? ⟨w.heap.size + 1, 1, none⟩ = some (wv b 1) ∧ w'.cell? ⟨w.heap.size + 1, 2, none⟩ = some (wv b 2) ∧ w'.cell? ⟨w.heap.size + 1, 3, none⟩ = some (wv b 3))
    (first | (with_reducible exact S.eight) | (with_reducible exact S.drew.eight))
    (first
      | (go_at_call 20; (with_reducible refine (hUni a b _).mono ?_); rintro e v5 ⟨rfl, hb⟩; replace S := St.below S hb; clear hb)
      | (go_at_call 21; (with_reducible refine (hRuni a b _).mono ?_); rintro e v5 ⟨rfl, hb⟩; replace S := St.below S hb; clear hb)
      | (go_at_call 22; (with_reducible refine (hMee a b _).mono ?_); rintro e v5 ⟨rfl, hb⟩; replace S := St.below S hb; clear hb)
      | (go_at_call 23; (with_reducible refine (hRmee a b _).mono ?_); rintro e v5 ⟨rfl, hb⟩; replace S := St.below S hb; clear hb)
      | (go_at_call 24; (with_reducible refine (hMin a b _).mono ?_); rintro e v5 ⟨rfl, hb⟩; replace S := St.below S hb; clear hb)
      | (go_at_call 25; (with_reducible refine (hRmin a b _).mono ?_); rintro e v5 ⟨rfl, hb⟩; replace S := St.below S hb; clear hb)
      | (go_at_call 26; (with_reducible refine (hNeg a _).mono ?_); rintro e v5 ⟨rfl, hb⟩; replace S := St.below S hb; clear hb)
      | (go_at_call 27; (with_reducible refine (hRneg a _).mono ?_); rintro e v5 ⟨rfl, hb⟩; replace S := St.below S hb; clear hb)
      | (go_at_call 28; (with_reducible refine (hSub a b _).mono ?_); rintro e v5 ⟨rfl, hb⟩; replace S := St.below S hb; clear hb)
      | (go_at_call 29; (with_reducible refine (hRsub a b _).mono ?_); rintro e v5 ⟨rfl, hb⟩; replace S := St.below S hb; clear hb)
      | (go_at_call 30; (with_reducible refine (hCou a _).mono ?_); rintro e v5 ⟨rfl, hb⟩; replace S := St.below S hb; clear hb)
      | (go_at_call 31; (with_reducible refine (hRcou a _).mono ?_); rintro e v5 ⟨rfl, hb⟩; replace S := St.below S hb; clear hb)
      | (go_at_call 32; (with_reducible refine (hLst a _).mono ?_); rintro e v5 ⟨vl, rfl, hvl, hb⟩; replace S := St.below S hb; clear hb; have cv1 := conv_li hvl)
      | (go_at_call 33; (with_reducible refine (hRlst a _).mono ?_); rintro e v6 ⟨vr, rfl, hvr, hb⟩; replace S := St.below S hb; have cv2 := conv_li (hvl.below hb); have cv3 := conv_li hvr; clear hb)
      | (go_at_call 35; (with_reducible refine (hRun a _).mono ?_); rintro e v7 ⟨ul, rfl, hul, hb⟩; replace S := St.below S hb; clear hb)
      | (go_at_call 36; (with_reducible refine (hRrun a _).mono ?_); rintro e v8 ⟨ur, rfl, hur, hb⟩; replace S := St.below S hb; have hum := hul.below hb; clear hb)
      | (go_at_call 34; (with_reducible refine (same_any _ _ _ _ RL.out hum hur).mono ?_); rintro e v9 ⟨rfl, hb⟩; replace S := St.below S hb; clear hb)
      | (go_at_call 9; (with_reducible refine (shown_any _).mono ?_); rintro e v5 ⟨rfl, hb⟩; replace S := St.below S hb; clear hb)
      )
  all_goals
    have B13 : Below w.heap.size w _ := B0.trans (S.bel.mono B0.size)
    clear S
    go_wp2
    go_ret
    exact ⟨rfl, B13⟩
end Go.Proofs.Ytodkananajllaaa
