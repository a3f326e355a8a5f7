/- Layer 3: Of, both; bytes in memory. -/
import Derived.Test.YtedbhjladpfafaaE
namespace Go.Proofs.Ytedbhjladpfafaa
open Go.RowKit
theorem quo64 {x : Nat} (h : x < 256) : IntKind.u8.wrap ((x : Int) / 64) = (x : Int) / 64 ∧ 0 ≤ (x : Int) / 64 ∧ ((x : Int) / 64).toNat = x / 64 ∧ (x : Int) / 64 < 4 := by
  refine ⟨?_, by omega, by omega, by omega⟩
  rw [IntKind.wrap_u8]; omega
/-- A slice of bytes in memory. -/
def BR (W : World) (v : Value) (xs : List Nat) : Prop :=
  ∃ p c, v = .slice p xs.length c ∧ xs.length ≤ c ∧ ∀ i x, xs[i]? = some x → x < 256 ∧ ∃ b o, p = some ⟨b, o, none⟩ ∧ W.cell? ⟨b, o + i, none⟩ = some (.int .u8 (x : Nat))
theorem BR.below {w w' : World} {v : Value} {xs : List Nat} (h : BR w v xs) (hb : Below w.heap.size w w') : BR w' v xs := by
  obtain ⟨p, c, rfl, hc, hx⟩ := h
  refine ⟨p, c, rfl, hc, fun i x hi => ?_⟩
  obtain ⟨hl, b, o, rfl, hcell⟩ := hx i x hi
  exact ⟨hl, b, o, rfl, (hb.cell (p := ⟨b, o + i, none⟩) (block_lt_of_cell hcell)).trans hcell⟩
theorem BR.form {W : World} {v : Value} {xs : List Nat} (h : BR W v xs) (hn : 0 < xs.length) : ∃ b o c, v = .slice (some ⟨b, o, none⟩) xs.length c ∧ b < W.heap.size ∧ ∀ i x, xs[i]? = some x → x < 256 ∧ W.cell? ⟨b, o + i, none⟩ = some (.int .u8 (x : Nat)) := by
  obtain ⟨p, c, rfl, hc, hx⟩ := h
  obtain ⟨_, b, o, rfl, h0⟩ := hx 0 xs[0] (List.getElem?_eq_getElem hn)
  refine ⟨b, o, c, rfl, block_lt_of_cell h0, fun i x hi => ?_⟩
  obtain ⟨hl, b', o', e, h⟩ := hx i x hi
  cases e; exact ⟨hl, h⟩
/-- The set of these bytes. -/
def ofL (xs : List Nat) : Nat → Bool := fun i => xs.contains i
theorem ofL_succ {xs : List Nat} {k x : Nat} (h : xs[k]? = some x) (i : Nat) : withB (ofL (xs.take k)) x i = ofL (xs.take (k + 1)) i := by
  unfold withB ofL
  rw [List.take_add_one, h, Bool.eq_iff_iff]
  simp
theorem ofL_all (xs : List Nat) : ofL (xs.take xs.length) = ofL xs := by rw [List.take_length]
def OfI (w wr : World) (xs : List Nat) (k : Nat) : Prop := SA wr w.heap.size (fun _ => false) ∧ SA wr (w.heap.size + 1) (ofL (xs.take k)) ∧ Below w.heap.size w wr
set_option maxHeartbeats 400000 in
set_option maxRecDepth 100000 in
theorem of_any (v : Value) (xs : List Nat) (w : World) (hv : BR w v xs) (hl : xs.length ≤ 1000000000) : Calls Try.prog 10 #[v] w (SetPost w (ofL xs)) := by
  obtain ⟨h1, h2, hb⟩ := zero_zero w
  have HV := Lib.hid hv
  obtain ⟨p, c, rfl, hc, _⟩ := hv
  obtain ⟨n, hn⟩ : ∃ n, n = xs.length := ⟨_, rfl⟩
  rw [← hn] at HV hc hl ⊢
  have HN := Lib.hid hn
  clear hn hc
  go_enter Try.func10, Try.ntmps10
  go_wp2
  go_loopw [5, 8] (fun _ i wr => ∃ k : Nat, k ≤ n ∧ i = .int .i64 k ∧ OfI w wr xs k) (fun _ i _ => n - (intOf i).toNat)
  case atStart => exact ⟨0, Nat.zero_le _, rfl, h1, h2.congr fun i _ => by simp [ofL], hb⟩
  case round =>
    obtain ⟨k, hk, rfl, h1, h2, hb⟩ := hrel
    by_cases hlt : k < n
    · have hltb : decide ((k : Int) < (n : Int)) = true := decide_eq_true (by omega)
      obtain ⟨x, hx⟩ : ∃ x, xs[k]? = some x := ⟨_, List.getElem?_eq_getElem (by rw [← HN.out]; exact hlt)⟩
      obtain ⟨b, o, c', e1, hbw, hcells⟩ := HV.out.form (by rw [← HN.out]; omega)
      cases e1
      obtain ⟨hx8, hcx⟩ := hcells k x hx
      have hcx' := (hb.cell (p := ⟨b, o + k, none⟩) hbw).trans hcx
      obtain ⟨m, PL, hor⟩ := place_word x hx8
      have hcw := h2.cell (x / 64) (by omega)
      have hf := h2.frozen (x / 64)
      have ho := hor (ofL (xs.take k))
      obtain ⟨hq, hq0, hqn, hk4⟩ := quo64 hx8
      have HS := Lib.hid (And.intro h1 (And.intro h2 hb))
      have HX := Lib.hid hx
      clear h1 h2 hb hor hcells hx hcx
      go_wp2
      refine wp_region_still_tail 8 (by kernel_rfl) (by kernel_rfl) ?_
      simp only [List.take_succ_cons, List.take_zero, List.drop_succ_cons, List.drop_zero]
      repeat (first | still_step | still_call (PL _))
      refine wpStill_nil ?_
      go_wp2
      go_roundw
      case rel =>
        obtain ⟨h1, h2, hb⟩ := HS.out
        have s2 := (h2.word (q := withB (ofL (xs.take k)) x) (x / 64) (by omega) (fun i hi => wd_withB_ne _ x i hi)).congr fun i _ => ofL_succ HX.out i
        have pw := put_word wr (w.heap.size + 1) (x / 64) (.int .u64 ((wd (withB (ofL (xs.take k)) x) (x / 64) : Nat) : Int))
        exact ⟨k + 1, by omega, by go_num, (pw.sa (by omega) h1).drew, s2.drew, (hb.trans (pw.below (by omega))).drew⟩
      case measure => simp [intOf]; omega
    · obtain rfl : k = n := by omega
      have h3 := h2
      rw [HN.out, ofL_all] at h3
      have HB := Lib.hid hb
      clear h2 hb
      go_wp2_with (first
        | (refine wpList_get rfl _ rfl _ rfl _ h3 ?_)
        | (refine wpList_put rfl _ _ rfl _ rfl _ (ofL xs) rfl h1 ?_; intro w3 s3 p3)
        )
      refine bodyPost_ret (v := sv (ofL xs)) (set_result Try.results10 _ _ _ _ rfl s3) rfl ⟨rfl, ?_⟩
      exact HB.out.trans (p3.below (Nat.le_refl _))
section
variable {a : Act} {w : World}
/-- A byte out of an old block, in a quiet walk. -/
theorem quiet_byte {o : Oper} {K : Act → Prop} {n : Nat} (x : Operand) (ho : o.op = .load 5 x) (p : Addr) (hx : a.eval x = .pointer (some p)) (c : Int) (hc : w.cell? p = some (.int .u8 c)) (hB : p.block < n)
    (h : K (a.put o.dst (.int .u8 c))) : o.quiet Try.prog a (fun w' => Below n w w') K :=
  ⟨_, fun w' hw => by
    have hc' := (hw.cell hB).trans hc
    unfold Oper.quietAt execOp
    rw [ho]
    simp only [hx]
    go_simp, h⟩
end
end Go.Proofs.Ytedbhjladpfafaa
