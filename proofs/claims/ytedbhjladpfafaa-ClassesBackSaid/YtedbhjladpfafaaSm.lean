/- Layer 3: Same of the reference. -/
import Derived.Test.YtedbhjladpfafaaRr
import Derived.Deep.MidRow
namespace Go.Proofs.Ytedbhjladpfafaa
open Go.RowKit
theorem eq2 (w : World) (a b c d : Int) : (Op.equalIn 10000 47 (.agg #[.int .u8 a, .int .u8 b]) (.agg #[.int .u8 c, .int .u8 d])).run Try.prog w = .ok (a == c && b == d) w := by
  obtain ⟨i, hi⟩ := info_of_underlying Try.underlying5
  have hp : ∀ (xs : Array Value) (k : Nat) (v : Value), xs[k]? = some v → (Go.part 5 xs k).run Try.prog w = .ok v w := fun xs k v h => run_part_plain w (by kernel_rfl) h
  have hc : Try.prog.cellsOf 5 = 1 := by kernel_rfl
  have he : ∀ a b : Int, (Op.equalIn 9999 5 (.int .u8 a) (.int .u8 b)).run Try.prog w = .ok (a == b) w := fun a b => by
    rw [run_equalIn_int w 9998 _ .u8 .u8 a b Try.underlying5]
  rw [show (10000 : Nat) = 9999 + 1 from rfl, run_equalIn_array w 9999 _ _ Try.underlying47 hi, hc, show List.range 2 = [0, 1] from rfl]
  simp only [Op.eqItems, Sem.run_bind, Nat.mul_one, hp #[.int .u8 a, .int .u8 b] 0 (.int .u8 a) rfl, hp #[.int .u8 a, .int .u8 b] 1 (.int .u8 b) rfl, hp #[.int .u8 c, .int .u8 d] 0 (.int .u8 c) rfl, hp #[.int .u8 c, .int .u8 d] 1 (.int .u8 d) rfl, Result.andThen_ok, he, Sem.run_ite, Sem.run_pure]
  cases a == c <;> cases b == d <;> rfl
theorem guard2 (op : BinOp) (x y : Operand) (xs ys : Array Value) (w : World) : (eqGuard op 47 x y (.agg xs) (.agg ys)).run Try.prog w = .ok () w := run_eqGuard_agg w op _ x y xs ys (by kernel_rfl)
attribute [local go_sem] eq2 guard2
theorem RR.form {W : World} {v : Value} {rs : List (Nat × Nat)} (h : RR W v rs) (hn : 0 < rs.length) : ∃ b o c, v = .slice (some ⟨b, o, none⟩) rs.length c ∧ b < W.heap.size ∧ ∀ i r, rs[i]? = some r → W.cell? ⟨b, o + i * 2, none⟩ = some (u8n r.1) ∧ W.cell? ⟨b, o + i * 2 + 1, none⟩ = some (u8n r.2) := by
  obtain ⟨p, c, rfl, hc, hx⟩ := h
  obtain ⟨b, o, rfl, h0, _⟩ := hx 0 rs[0] (List.getElem?_eq_getElem hn)
  refine ⟨b, o, c, rfl, block_lt_of_cell h0, fun i r hi => ?_⟩
  obtain ⟨b', o', e, h1, h2⟩ := hx i r hi
  cases e; exact ⟨h1, h2⟩
section
variable {w : World} {a : Act}
theorem quiet_get2 {o : Oper} {K : Act → Prop} {n : Nat} (x : Operand) (ho : o.op = .load 47 x) (b o' : Nat) (hx : a.eval x = .pointer (some ⟨b, o', none⟩)) (c d : Value) (h1 : w.cell? ⟨b, o', none⟩ = some c) (h2 : w.cell? ⟨b, o' + 1, none⟩ = some d) (hB : b < n)
    (h : K (a.put o.dst (.agg #[c, d]))) : o.quiet Try.prog a (fun w' => Below n w w') K :=
  ⟨.agg #[c, d], fun w' hw => by
    have hr : w'.rangeAt b o' [c, d] := fun j v hj => by
      match j, hj with
      | 0, hj => cases hj; exact (hw.cell (p := ⟨b, o', none⟩) hB).trans h1
      | 1, hj => cases hj; exact (hw.cell (p := ⟨b, o' + 1, none⟩) hB).trans h2
      | _ + 2, hj => simp at hj
    unfold Oper.quietAt execOp
    simp only [ho, hx, Instr.loadAt, Instr.sureAddr, Sem.run_bind, Sem.run_pure, Result.andThen_ok, run_loadVar_mid w' b o' 47 [c, d] _ hr Try.underlying47 rfl (by kernel_rfl)]
    exact ⟨rfl, rfl⟩, h⟩
end
set_option maxHeartbeats 800000 in
set_option maxRecDepth 100000 in
theorem same_any (rs : List (Nat × Nat)) (v u : Value) (w : World) (hl : rs.length ≤ 1000) (hv : RR w v rs) (hu : RR w u rs) : Calls Try.prog 34 #[v, u] w fun e w' => e = .returned (.bool true) ∧ Below w.heap.size w w' := by
  have HV := Lib.hid hv
  have HU := Lib.hid hu
  obtain ⟨p, c, rfl, hc, _⟩ := hv
  obtain ⟨p', c', rfl, hc', _⟩ := hu
  obtain ⟨n, hn⟩ : ∃ n, n = rs.length := ⟨_, rfl⟩
  rw [← hn] at hc hc' hl ⊢
  have HN := Lib.hid hn
  clear hn
  go_enter Try.func34, Try.ntmps34
  go_wp2
  go_loopw [5] (fun i wr => ∃ k : Nat, k ≤ n ∧ i = .int .i64 (k : Int) ∧ Below w.heap.size w wr) (fun i _ => n - (intOf i).toNat)
  case atStart => exact ⟨0, Nat.zero_le _, rfl, Below.refl _ _⟩
  case round =>
    obtain ⟨k, hk, rfl, hB⟩ := hrel
    by_cases hlt : k < n
    · have hltb : decide ((k : Int) < (n : Int)) = true := decide_eq_true (by omega)
      have hkn : (k : Int) < (n : Int) := by omega
      obtain ⟨r, hr⟩ : ∃ r, rs[k]? = some r := ⟨_, List.getElem?_eq_getElem (by rw [← HN.out]; exact hlt)⟩
      obtain ⟨g, o, c1, e1, hg, hcells⟩ := HV.out.form (by rw [← HN.out]; omega)
      obtain ⟨g', o', c2, e2, hg', hcells'⟩ := HU.out.form (by rw [← HN.out]; omega)
      have hpp : p = some ⟨g, o, none⟩ := by cases e1; rfl
      have hpp' : p' = some ⟨g', o', none⟩ := by cases e2; rfl
      subst hpp hpp'
      obtain ⟨r1, r2⟩ := r
      have h1 := (hB.cell (p := ⟨g, o + k * 2, none⟩) hg).trans (hcells k _ hr).1
      have h2 := (hB.cell (p := ⟨g, o + k * 2 + 1, none⟩) hg).trans (hcells k _ hr).2
      have h3 := (hB.cell (p := ⟨g', o' + k * 2, none⟩) hg').trans (hcells' k _ hr).1
      have h4 := (hB.cell (p := ⟨g', o' + k * 2 + 1, none⟩) hg').trans (hcells' k _ hr).2
      have hgw := Nat.lt_of_lt_of_le hg hB.size
      have hgw' := Nat.lt_of_lt_of_le hg' hB.size
      have hwn : IntKind.i64.wrap ((k : Int) + 1) = (k : Int) + 1 := IntWalk.i64_in _ (by omega)
      have HB := Lib.hid hB
      clear hcells hcells' hr hB e1 e2
      go_wp2
      refine wp_region_below (w := wr) (Nat.le_refl _) (by kernel_rfl) (by kernel_rfl) ?_
      repeat (first
        | go_big_quiet_skip
        | (go_big_quiet_want; (first
            | ((first | refine quiet_get2 _ rfl _ _ rfl (.int .u8 (r1 : Int)) (.int .u8 (r2 : Int)) h1 h2 hgw ?_ | refine quiet_get2 _ rfl _ _ rfl (.int .u8 (r1 : Int)) (.int .u8 (r2 : Int)) h3 h4 hgw' ?_); simp only [Act.put, List.setIfInBounds_toArray, List.set_cons_succ, List.set_cons_zero]; go_big_quiet_on)
            | (go_big_quiet_op; (first
                | go_big_quiet_on
                | (refine ⟨_, fun _ _ => rfl, ?_⟩; go_big_quiet_on)
                | (apply Exists.intro; refine ⟨fun w9 hw9 => ?_, ?_⟩; (focus (fail)); go_big_quiet_on))))))
      refine wpQuiet_nil ?_
      intro w3 hb3
      go_wp2
      all_goals
        go_roundw
        case rel => exact ⟨k + 1, by omega, by go_num, HB.out.trans (hb3.mono HB.out.size)⟩
        case measure => simp [intOf]; omega
    · obtain rfl : k = n := by omega
      have hltb : decide ((k : Int) < (k : Int)) = false := decide_eq_false (by omega)
      have HB := Lib.hid hB
      clear hB
      go_wp2
      go_ret
      exact ⟨rfl, HB.out⟩
end Go.Proofs.Ytedbhjladpfafaa
