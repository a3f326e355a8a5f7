/- The reference's Count. -/
import Derived.Test.YtehjncebddoinaaDoorH
namespace Go.Proofs.YtehjncebddoinaaDoor
open Go.RowKit
theorem cnt_step {kind : Int} {l : List Ev} {k s : Nat} {x : Ev} (h : l[k]? = some x) (hc : cntK kind l = s + cntK kind (l.drop k)) : cntK kind l = (s + if x.1 = kind then 1 else 0) + cntK kind (l.drop (k + 1)) := by
  rw [hc, drop_at h, cntK]; omega
theorem cnt_end {kind : Int} {l : List Ev} {k s : Nat} (h : l.length ≤ k) (hc : cntK kind l = s + cntK kind (l.drop k)) : cntK kind l = s := by
  rw [hc, drop_end h]; rfl
set_option maxRecDepth 100000 in
theorem rcount_any (v : Value) (l : List Ev) (kind : Int) (w : World) (hv : TR w v l) (hl : l.length ≤ 100000000) : Calls Tryd.prog 13 #[v, .int .i64 kind] w (CtPost w l kind) := by
  obtain ⟨ho, p, c, rfl, _, hx⟩ := hv
  have HO := Lib.hid ho
  have HX := Lib.hid hx
  obtain ⟨n, hn⟩ : ∃ n, n = l.length := ⟨_, rfl⟩
  rw [← hn] at hl ⊢
  have HN := Lib.hid hn
  clear ho hx hn
  by_cases k1 : kind = 1
  · have E := Lib.hid (show countE kind = 0 by unfold countE kindB; simp [k1])
    have R := Lib.hid (show countN l kind = (cntK kind l : Nat) by unfold countN kindB; simp [k1])
    have t1 : (kind != 1) = false := by simp [k1]
    clear k1
    go_enter Tryd.func13, Tryd.ntmps13
    go_wp2
    go_loopw [6, 7] (fun s i wr => ∃ k S : Nat, k ≤ n ∧ S ≤ k ∧ i = .int .i64 (k : Int) ∧ s = .int .i64 (S : Int) ∧ Hid (cntK kind l = S + cntK kind (l.drop k)) ∧ wr = w) (fun _ i _ => n - (intOf i).toNat)
    case atStart => exact ⟨0, 0, Nat.zero_le _, Nat.zero_le _, rfl, rfl, Lib.hid (by simp), rfl⟩
    case round =>
      obtain ⟨k, S, hk, hS, rfl, rfl, hc, rfl⟩ := hrel
      by_cases hlt : k < n
      · have tl : decide ((k : Int) < (n : Int)) = true := decide_eq_true (by omega)
        obtain ⟨x, hxk⟩ : ∃ x, l[k]? = some x := ⟨_, List.getElem?_eq_getElem (by rw [← HN.out]; exact hlt)⟩
        obtain ⟨b, o, rfl, hbl, c1, c2⟩ := HX.out k x hxk
        obtain ⟨⟨k1, k2⟩, k3, k4⟩ := okE_at HO.out hxk
        have x1 : IntKind.i64.wrap x.1 = x.1 := IntWalk.i64_in _ (by omega)
        have ST := Lib.hid (cnt_step hxk hc.out)
        have hlt2 : (k : Int) < (n : Int) := by omega
        clear hxk
        by_cases hks : x.1 = kind
        · have tk : (x.1 == kind) = true := by simp [hks]
          have ST2 := Lib.hid (show cntK kind l = (S + 1) + cntK kind (l.drop (k + 1)) by rw [ST.out, if_pos hks])
          clear hks
          go_wp2
          go_roundw
          case rel => exact ⟨k + 1, S + 1, by omega, by omega, by go_num, by go_num, ST2, by first | rfl | trivial⟩
          case measure => simp [intOf]; omega
        · have tk : (x.1 == kind) = false := by simpa using hks
          have ST2 := Lib.hid (show cntK kind l = S + cntK kind (l.drop (k + 1)) by rw [ST.out, if_neg hks]; rfl)
          clear hks
          go_wp2
          go_roundw
          case rel => exact ⟨k + 1, S, by omega, by omega, by go_num, rfl, ST2, by first | rfl | trivial⟩
          case measure => simp [intOf]; omega
      · have tl : decide ((k : Int) < (n : Int)) = false := decide_eq_false (by omega)
        have ST := Lib.hid (cnt_end (by rw [← HN.out]; omega) hc.out)
        go_wp2
        go_ret2
        exact ⟨by rw [E.out, R.out, ST.out]; rfl, Below.refl _ _⟩
  · have t1 : (kind != 1) = true := by simpa using k1
    by_cases k2 : kind = 2
    · have E := Lib.hid (show countE kind = 0 by unfold countE kindB; simp [k2])
      have R := Lib.hid (show countN l kind = (cntK kind l : Nat) by unfold countN kindB; simp [k2])
      have t2 : (kind != 2) = false := by simp [k2]
      clear k1 k2
      go_enter Tryd.func13, Tryd.ntmps13
      go_wp2
      go_loopw [6, 7] (fun s i wr => ∃ k S : Nat, k ≤ n ∧ S ≤ k ∧ i = .int .i64 (k : Int) ∧ s = .int .i64 (S : Int) ∧ Hid (cntK kind l = S + cntK kind (l.drop k)) ∧ wr = w) (fun _ i _ => n - (intOf i).toNat)
      case atStart => exact ⟨0, 0, Nat.zero_le _, Nat.zero_le _, rfl, rfl, Lib.hid (by simp), rfl⟩
      case round =>
        obtain ⟨k, S, hk, hS, rfl, rfl, hc, rfl⟩ := hrel
        by_cases hlt : k < n
        · have tl : decide ((k : Int) < (n : Int)) = true := decide_eq_true (by omega)
          obtain ⟨x, hxk⟩ : ∃ x, l[k]? = some x := ⟨_, List.getElem?_eq_getElem (by rw [← HN.out]; exact hlt)⟩
          obtain ⟨b, o, rfl, hbl, c1, c2⟩ := HX.out k x hxk
          obtain ⟨⟨k1, k2⟩, k3, k4⟩ := okE_at HO.out hxk
          have x1 : IntKind.i64.wrap x.1 = x.1 := IntWalk.i64_in _ (by omega)
          have ST := Lib.hid (cnt_step hxk hc.out)
          have hlt2 : (k : Int) < (n : Int) := by omega
          clear hxk
          by_cases hks : x.1 = kind
          · have tk : (x.1 == kind) = true := by simp [hks]
            have ST2 := Lib.hid (show cntK kind l = (S + 1) + cntK kind (l.drop (k + 1)) by rw [ST.out, if_pos hks])
            clear hks
            go_wp2
            go_roundw
            case rel => exact ⟨k + 1, S + 1, by omega, by omega, by go_num, by go_num, ST2, by first | rfl | trivial⟩
            case measure => simp [intOf]; omega
          · have tk : (x.1 == kind) = false := by simpa using hks
            have ST2 := Lib.hid (show cntK kind l = S + cntK kind (l.drop (k + 1)) by rw [ST.out, if_neg hks]; rfl)
            clear hks
            go_wp2
            go_roundw
            case rel => exact ⟨k + 1, S, by omega, by omega, by go_num, rfl, ST2, by first | rfl | trivial⟩
            case measure => simp [intOf]; omega
        · have tl : decide ((k : Int) < (n : Int)) = false := decide_eq_false (by omega)
          have ST := Lib.hid (cnt_end (by rw [← HN.out]; omega) hc.out)
          go_wp2
          go_ret2
          exact ⟨by rw [E.out, R.out, ST.out]; rfl, Below.refl _ _⟩
    · have E := Lib.hid (show countE kind = 2 by unfold countE kindB; simp [k1, k2])
      have R := Lib.hid (show countN l kind = 0 by unfold countN kindB; simp [k1, k2])
      have t2 : (kind != 2) = true := by simpa using k2
      clear k1 k2
      go_enter Tryd.func13, Tryd.ntmps13
      go_wp2
      go_ret2
      exact ⟨by rw [E.out, R.out]; rfl, Below.refl _ _⟩
end Go.Proofs.YtehjncebddoinaaDoor
