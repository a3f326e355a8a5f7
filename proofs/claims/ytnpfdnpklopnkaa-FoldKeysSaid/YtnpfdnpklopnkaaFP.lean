/- Layer 4: the reference's Sets, SameSets; the law on strings. -/
import Derived.Test.YtnpfdnpklopnkaaFO
namespace Go.Proofs.Ytnpfdnpklopnkaa
open Go.RowKit
attribute [local go_sem] eq4 guard4
def encS (p : Nat → Bool) : List Value := (sc p).toList
theorem encS_len (p : Nat → Bool) : (encS p).length = 4 := rfl
theorem flatS_len (ps : List (Nat → Bool)) : (ps.flatMap encS).length = ps.length * 4 := by
  induction ps with
  | nil => rfl
  | cons p ps ih => rw [List.flatMap_cons, List.length_append, encS_len, ih, List.length_cons]; omega
theorem flatS_get (ps : List (Nat → Bool)) : ∀ i p, ps[i]? = some p → ∀ j, j < 4 → (ps.flatMap encS)[i * 4 + j]? = (encS p)[j]? := by
  induction ps with
  | nil => intro i p h; simp at h
  | cons q ps ih =>
    intro i p h j hj
    cases i with
    | zero =>
      simp at h; subst h
      rw [List.flatMap_cons, List.getElem?_append_left (by rw [encS_len]; omega)]
      congr 1; omega
    | succ i =>
      have := ih i p (by simpa using h) j hj
      rw [List.flatMap_cons, List.getElem?_append_right (by rw [encS_len]; omega), encS_len, show (i + 1) * 4 + j - 4 = i * 4 + j by omega]
      exact this
theorem SR.own {W : World} {B : Nat} {v : Value} {ps : List (Nat → Bool)} (h : W.ownsRow B 26 4 v ps.length (ps.flatMap encS)) : SR W v ps := by
  rcases h.2 with ⟨rfl, h0⟩ | ⟨g, cap, cur, rfl, _, hgb, hn, _⟩
  · have : ps = [] := List.eq_nil_of_length_eq_zero (by simpa using h0)
    subst this
    exact SR.nil W
  · refine ⟨_, cap, rfl, hn, fun i q hi => ⟨g, 0, rfl, fun j u hj => ?_, (Array.getElem?_eq_some_iff.1 hgb).1⟩⟩
    have hl := (List.getElem?_eq_some_iff.1 hi).1
    have hj4 : j < 4 := (List.getElem?_eq_some_iff.1 hj).1
    rw [Nat.zero_add, World.ownsRow.cellAt h (i * 4 + j) (by omega), flatS_get ps i q hi j hj4]
    exact hj
theorem set_new_cells (w : World) (p : Nat → Bool) (j : Nat) (u : Value) (h : (encS p)[j]? = some u) : (w.alloc (.cells (sc p) 26)).cell? ((⟨w.heap.size, 0, none⟩ : Addr).add j) = some u := by
  have e : ((⟨w.heap.size, 0, none⟩ : Addr).add j) = ⟨w.heap.size, j, none⟩ := by unfold Addr.add; split <;> simp_all
  rw [e, cell_of_row _ _ _ _ _ _ (heap_alloc_new _ _)]
  simpa [encS] using h
theorem encS_one (p : Nat → Bool) : ∀ v ∈ encS p, v.oneCell' = true := fun v hv => (Array.all_eq_true_iff_forall_mem.1 (sc_one p)) v (by simpa [encS] using hv)
theorem bs_sc (q : Nat → Bool) : Array.foldl (fun (cs : Array Value) (x : Value × Nat) => cs.setIfInBounds x.snd x.fst) #[.int .u64 0, .int .u64 0, .int .u64 0, .int .u64 0] (sc q).zipIdx 0 (sc q).size = sc q := by kernel_rfl
theorem bs_sc4 (q : Nat → Bool) : Array.foldl (fun (cs : Array Value) (x : Value × Nat) => cs.setIfInBounds x.snd x.fst) #[.int .u64 0, .int .u64 0, .int .u64 0, .int .u64 0] (sc q).zipIdx 0 4 = sc q := by kernel_rfl
attribute [local go_sem] bs_sc bs_sc4 sc_size
theorem setsL_take (a : ByteArray) {k : Nat} (h : k < a.size) : (setsL a.data.toList).take (k + 1) = (setsL a.data.toList).take k ++ [bothP a[k].toNat] := by
  rw [List.take_succ_eq_append_getElem (by unfold setsL; simpa using h)]
  unfold setsL
  rw [List.getElem_map]; rfl
set_option maxHeartbeats 800000 in
set_option maxRecDepth 100000 in
theorem rsets_any (a : ByteArray) (w : World) : Calls Try.prog 25 #[.string a] w (SetsPost w a) := by
  by_cases h : 512 < a.size
  · have hb1 : decide ((512 : Int) < (a.size : Int)) = true := decide_eq_true (by omega)
    have e1 := Lib.hid (show setsE a = 3 by unfold setsE; rw [if_pos h])
    have e2 := Lib.hid (show setsV a = [] by unfold setsV; rw [if_pos h])
    clear h
    go_enter Try.func25, Try.ntmps25
    go_wp2
    go_ret2
    exact ⟨_, by rw [e1.out]; rfl, by rw [e2.out]; exact SR.nil _, Below.refl _ _⟩
  · have hb1 : decide ((512 : Int) < (a.size : Int)) = false := decide_eq_false (by omega)
    have e1 := Lib.hid (show setsE a = 0 by unfold setsE; rw [if_neg h])
    have e2 := Lib.hid (show setsV a = setsL a.data.toList by unfold setsV; rw [if_neg h])
    have hsz : a.size ≤ 512 := by omega
    obtain ⟨i0, hi, hzz⟩ := Option.map_eq_some_iff.1 info_set
    simp only [Prod.mk.injEq] at hzz
    obtain ⟨hz0, hz1, hz2⟩ := hzz
    clear h
    go_enter Try.func25, Try.ntmps25
    go_wp2
    go_loopw [4, 5] (fun v i wr => ∃ k : Nat, k ≤ a.size ∧ i = .int .i64 (k : Int) ∧ wr.ownsRow w.heap.size 26 4 v k (((setsL a.data.toList).take k).flatMap encS) ∧ Below w.heap.size w wr) (fun _ i _ => a.size - (intOf i).toNat)
    case atStart => exact ⟨0, Nat.zero_le _, rfl, World.ownsRow_nil _ _ _ _, Below.refl _ _⟩
    case round =>
      obtain ⟨k, hk, rfl, ho, hB⟩ := hrel
      by_cases hlt : k < a.size
      · have hltb : decide ((k : Int) < (a.size : Int)) = true := decide_eq_true (by omega)
        have L := Lib.hid (fun w => rboth_any a[k].toNat w (UInt8.toNat_lt _))
        have HT := Lib.hid (setsL_take a hlt)
        go_wp2_with (first
          | (go_at_call 16; (with_reducible refine (L.out _).mono ?_); rintro e w2 ⟨rfl, hb2⟩; have o2 := own_from ho (grown_of hb2) (fun r e => by cases e) (n0 := 0); have B2 := hB.trans (hb2.mono hB.size); have l2 := B2.size; clear ho hB)
          | (at_builtin; refine wpList_append_own _ rfl _ _ 31 rfl w.heap.size 26 i0 (.agg #[.int .u64 0, .int .u64 0, .int .u64 0, .int .u64 0]) 4 32 Try.underlying31 hi hz0 hz1 hz2 rfl (by decide) _ k _ rfl (o2.alloc _) ⟨w2.heap.size, 0, none⟩ 1 1 (encS (bothP a[k].toNat)) rfl rfl (set_new_cells _ _) (encS_one _) (by simp only [maxLen]; omega) (by omega) (by simp; omega) ?_; intro v' w4 hown' hgrow _)
          )
        go_roundw
        case rel => exact ⟨k + 1, by omega, by go_num, by rw [HT.out, List.flatMap_append]; simpa using hown', (B2.alloc l2 _).grown hgrow (by simp; omega) (fun j hj => (o2.lt j hj).1)⟩
        case measure => simp [intOf]; omega
      · obtain rfl : k = a.size := by omega
        have hltb : decide ((a.size : Int) < (a.size : Int)) = false := decide_eq_false (by omega)
        go_wp2
        go_ret2
        rw [List.take_of_length_le (by unfold setsL; simp)] at ho
        exact ⟨_, by rw [e1.out]; rfl, by rw [e2.out]; exact SR.own (by rw [show (setsL a.data.toList).length = a.size by unfold setsL; simp]; exact ho), hB⟩
section
variable {a : Act} {w : World}
/-- A set out of the middle of an old block, in a quiet walk. -/
theorem quiet_getm {o : Oper} {K : Act → Prop} {n : Nat} (x : Operand) (ho : o.op = .load 26 x) (b o' : Nat) (hx : a.eval x = .pointer (some ⟨b, o', none⟩)) (p : Nat → Bool) (hr : w.rangeAt b o' (sc p).toList) (hB : b < n)
    (h : K (a.put o.dst (sv p))) : o.quiet Try.prog a (fun w' => Below n w w') K :=
  ⟨sv p, fun w' hw => by
    have hr' : w'.rangeAt b o' (sc p).toList := fun j v hv => (hw.cell (p := ⟨b, o' + j, none⟩) hB).trans (hr j v hv)
    have hl := run_loadVar_mid (P := Try.prog) w' b o' 26 (sc p).toList _ hr' Try.underlying26 rfl (by kernel_rfl)
    unfold Oper.quietAt execOp
    simp only [ho, hx, Instr.loadAt, Instr.sureAddr, Sem.run_bind, Sem.run_pure, Result.andThen_ok, hl]
    exact ⟨rfl, rfl⟩, h⟩
end
set_option maxHeartbeats 800000 in
set_option maxRecDepth 100000 in
theorem sameSets_any (v u : Value) (ps : List (Nat → Bool)) (w : World) (hv : SR w v ps) (hu : SR w u ps) (hl : ps.length ≤ 1000000) : Calls Try.prog 32 #[v, u] w (NumP w (.bool true)) := by
  have HV := Lib.hid hv
  have HU := Lib.hid hu
  obtain ⟨p, c, rfl, hc, _⟩ := hv
  obtain ⟨q, d, rfl, hd, _⟩ := hu
  clear hc hd
  obtain ⟨n, hn⟩ : ∃ n, n = ps.length := ⟨_, rfl⟩
  have HN := Lib.hid hn
  rw [← hn] at hl ⊢
  clear hn
  go_enter Try.func32, Try.ntmps32
  go_wp2
  go_loopw [5] (fun i wr => ∃ k : Nat, k ≤ n ∧ i = .int .i64 (k : Int) ∧ Below w.heap.size w wr) (fun i _ => n - (intOf i).toNat)
  case atStart => exact ⟨0, Nat.zero_le _, rfl, Below.refl _ _⟩
  case round =>
    obtain ⟨k, hk, rfl, hb⟩ := hrel
    by_cases hlt : k < n
    · have hltb : decide ((k : Int) < (n : Int)) = true := decide_eq_true (by omega)
      have hkn : (k : Int) < (n : Int) := by omega
      obtain ⟨x, hxk⟩ : ∃ x, ps[k]? = some x := ⟨_, List.getElem?_eq_getElem (by rw [← HN.out]; exact hlt)⟩
      obtain ⟨p', c', ev, _, hx⟩ := (HV.out.below (hb.mono (Nat.le_refl _)))
      obtain ⟨q', d', ev2, _, hy⟩ := (HU.out.below (hb.mono (Nat.le_refl _)))
      obtain ⟨g, o, hpe, hr, hgl⟩ := hx k x hxk
      obtain ⟨g2, o2, hqe, hr2, hgl2⟩ := hy k x hxk
      have hpp : p = some ⟨g, o, none⟩ := by cases ev; exact hpe
      have hqq : q = some ⟨g2, o2, none⟩ := by cases ev2; exact hqe
      subst hpp
      subst hqq
      have es := eqS_self x
      clear hx hy ev ev2 hpe hqe hxk
      go_wp2
      refine wp_region_below (w := wr) (Nat.le_refl _) (by kernel_rfl) (by kernel_rfl) ?_
      repeat (first
        | go_big_quiet_skip
        | (go_big_quiet_want; (first
            | ((first | refine quiet_getm _ rfl _ _ rfl _ hr hgl ?_ | refine quiet_getm _ rfl _ _ rfl _ hr2 hgl2 ?_); simp only [Act.put, List.setIfInBounds_toArray, List.set_cons_succ, List.set_cons_zero]; go_big_quiet_on)
            | (go_big_quiet_op; (first
                | go_big_quiet_on
                | (refine ⟨_, fun _ _ => rfl, ?_⟩; go_big_quiet_on)
                | (apply Exists.intro; refine ⟨fun w9 hw9 => ?_, ?_⟩; (focus (fail)); go_big_quiet_on))))))
      refine wpQuiet_nil ?_
      intro w4 hb4
      go_wp2
      go_roundw
      case rel => exact ⟨k + 1, by omega, by go_num, hb.trans (hb4.mono hb.size)⟩
      case measure => simp [intOf]; omega
    · obtain rfl : k = n := by omega
      have hltb : decide ((k : Int) < (k : Int)) = false := decide_eq_false (by omega)
      go_wp2
      go_ret
      exact ⟨rfl, hb⟩
end Go.Proofs.Ytnpfdnpklopnkaa
