/- Layer 1: the reference's parts, walked. -/
import Derived.Test.YtoapfldmkpobmaaGreatDoorQw
namespace Go.Proofs.YtoapfldmkpobmaaGreatDoor
open Go.RowKit
/-- A string cut at a byte; cur is what stands before it. -/
def pF (c : UInt8) (cur : List UInt8) : List UInt8 → List (List UInt8)
  | [] => [cur]
  | x :: r => if x = c then cur :: pF c [] r else pF c (cur ++ [x]) r
theorem pF_ne (c : UInt8) (l : List UInt8) : ∀ cur, pF c cur l ≠ [] := by
  induction l with
  | nil => intro cur; simp [pF]
  | cons x r ih => intro cur; unfold pF; split; simp; exact ih _
theorem pF_comma (l : List UInt8) : ∀ cur, pF 44 cur l = (cur ++ (c_parts l).headD []) :: (c_parts l).tail := by
  induction l with
  | nil => intro cur; simp [pF, c_parts]
  | cons x r ih =>
    intro cur
    unfold pF c_parts
    by_cases h : x = 44
    · rw [if_pos h, if_pos h, ih]
      cases hp : c_parts r with
      | nil => exact absurd hp (c_parts_ne r)
      | cons p ps => simp
    · rw [if_neg h, if_neg h, ih]
      cases hp : c_parts r with
      | nil => exact absurd hp (c_parts_ne r)
      | cons p ps => simp
theorem pF_c_parts (l : List UInt8) : pF 44 [] l = c_parts l := by
  rw [pF_comma]
  cases hp : c_parts l with
  | nil => exact absurd hp (c_parts_ne l)
  | cons p ps => simp
theorem pF_len (c : UInt8) (l : List UInt8) : ∀ cur, (pF c cur l).length ≤ l.length + 1 := by
  induction l with
  | nil => intro cur; simp [pF]
  | cons x r ih =>
    intro cur; unfold pF; split
    · have := ih []; simp; omega
    · have := ih (cur ++ [x]); simp; omega
theorem pF_none {c : UInt8} : ∀ {l : List UInt8} (cur : List UInt8), c ∉ l → pF c cur l = [cur ++ l]
  | [], cur, _ => by simp [pF]
  | x :: r, cur, h => by
    unfold pF
    rw [if_neg (fun e => h (by rw [e]; simp)), pF_none _ (fun e => h (List.mem_cons_of_mem _ e))]
    simp
theorem pF_at {c : UInt8} : ∀ {a : List UInt8} (cur b : List UInt8), c ∉ a → pF c cur (a ++ c :: b) = (cur ++ a) :: pF c [] b
  | [], cur, b, _ => by
    show pF c cur (c :: b) = _
    conv => lhs; unfold pF
    rw [if_pos rfl, List.append_nil]
  | x :: a, cur, b, h => by
    show pF c cur (x :: (a ++ c :: b)) = _
    conv => lhs; unfold pF
    rw [if_neg (fun e => h (by rw [e]; simp)), pF_at _ _ (fun e => h (List.mem_cons_of_mem _ e))]
    simp
def mid (l : List UInt8) (f k : Nat) : List UInt8 := (l.drop f).take (k - f)
theorem mid_step {l : List UInt8} {f k : Nat} {c : UInt8} (hf : f ≤ k) (hc : l[k]? = some c) : mid l f (k + 1) = mid l f k ++ [c] := by
  unfold mid
  rw [show k + 1 - f = (k - f) + 1 by omega, List.take_add_one, List.getElem?_drop, show f + (k - f) = k by omega, hc]
  rfl
theorem ext_mid (s : ByteArray) (f k : Nat) (_hf : f ≤ k) (_hk : k ≤ s.size) : s.extract f k = ⟨(mid s.data.toList f k).toArray⟩ := by
  apply ByteArray.ext
  apply Array.ext'
  unfold mid
  simp [List.extract_eq_take_drop]
theorem drop_one {l : List UInt8} {k : Nat} {c : UInt8} (h : l[k]? = some c) : l.drop k = c :: l.drop (k + 1) := by
  have hk := (List.getElem?_eq_some_iff.1 h).1
  rw [List.drop_eq_getElem_cons hk, (List.getElem?_eq_some_iff.1 h).2]
def PtPost (w : World) (L : List (List UInt8)) (e : Ending) (w' : World) : Prop := Below w.heap.size w w' ∧ ∃ v, e = .returned v ∧ w'.ownsRow w.heap.size 9 1 v L.length (L.map strV)
set_option maxHeartbeats 800000 in
set_option maxRecDepth 100000 in
theorem parts_any (s : ByteArray) (c : UInt8) (w : World) (hs : s.size ≤ 1000000000) : Calls Tryz.prog 20 #[.string s, .int .u8 c.toNat] w (PtPost w (pF c [] s.data.toList)) := by
  obtain ⟨i0, hi, hz0, hz1, hz2⟩ := info_parts info_str
  go_enter Tryz.func20, Tryz.ntmps20
  go_wp2
  go_loopw [5, 6, 7] (fun v fr i wr => ∃ (k f : Nat) (done : List (List UInt8)), f ≤ k ∧ k ≤ s.size ∧ i = .int .i64 k ∧ fr = .int .i64 f ∧ Hid (wr.ownsRow w.heap.size 9 1 v done.length (done.map strV)) ∧ Below w.heap.size w wr ∧ Hid (pF c [] s.data.toList = done ++ pF c (mid s.data.toList f k) (s.data.toList.drop k)) ∧ done.length ≤ k) (fun _ _ i _ => s.size - (intOf i).toNat)
  case atStart => exact ⟨0, 0, [], Nat.le_refl _, Nat.zero_le _, rfl, rfl, Lib.hid (World.ownsRow_nil _ _ _ _), Below.refl _ _, Lib.hid (by simp [mid]), Nat.le_refl _⟩
  case round =>
    obtain ⟨k, f, done, hf, hk, rfl, rfl, HO, hb, HP, hdl⟩ := hrel
    have hbs := hb.size
    by_cases hlt : k < s.size
    · have t1 : decide ((k : Int) < (s.size : Int)) = true := decide_eq_true (by omega)
      have hg := data_get s k hlt
      have HG := Lib.hid hg
      by_cases hc : s[k] = c
      · have t2 : ((s[k].toNat : Int) == (c.toNat : Int)) = true := by rw [hc]; simp
        have HC := Lib.hid hc
        have hfk : (f : Int) ≤ (k : Int) := by omega
        clear hc hg
        go_wp2_with (first
          | (at_builtin; refine wpList_append_own _ rfl _ _ 41 rfl w.heap.size 9 i0 (.string ⟨#[]⟩) 1 16 Tryz.underlying41 hi hz0 hz1 hz2 rfl (by decide) _ done.length _ rfl (HO.out.alloc _) ⟨wr.heap.size, 0, none⟩ 1 1 [.string (s.extract f k)] rfl rfl (cell_one_new _ _ _) (by simp [Value.oneCell']) (by simp [maxLen]; omega) (by omega) (by simp; omega) ?_; intro v' w3 hown3 hgr3 _)
          )
        go_roundw
        case rel =>
          refine ⟨k + 1, k + 1, done ++ [mid s.data.toList f k], Nat.le_refl _, by omega, by go_num, by go_num, Lib.hid ?_, (hb.alloc hbs _).grown hgr3 (by rw [World.size_alloc]; omega) (fun j e => own_ge HO.out e), Lib.hid ?_, by rw [List.length_append]; simp; omega⟩
          · rw [List.length_append, List.map_append]
            have := hown3
            rw [ext_mid s f k hf (by omega)] at this
            exact this
          · rw [HP.out, drop_one HG.out, HC.out]
            conv => lhs; rw [pF]
            rw [if_pos rfl]
            simp [mid]
        case measure => simp [intOf]; omega
      · have t2 : ((s[k].toNat : Int) == (c.toNat : Int)) = false := by
          rw [beq_eq_false_iff_ne]; intro e
          exact hc (UInt8.toNat_inj.mp (by omega))
        have HC := Lib.hid hc
        clear hc hg
        go_wp2
        go_roundw
        case rel =>
          refine ⟨k + 1, f, done, by omega, by omega, by go_num, rfl, HO, hb, Lib.hid ?_, by omega⟩
          rw [HP.out, drop_one HG.out]
          conv => lhs; rw [pF]
          rw [if_neg HC.out, mid_step hf HG.out]
        case measure => simp [intOf]; omega
    · obtain rfl : k = s.size := by omega
      have t1 : decide ((s.size : Int) < (s.size : Int)) = false := decide_eq_false (by omega)
      have hfk : (f : Int) ≤ (s.size : Int) := by omega
      go_wp2_with (first
        | (at_builtin; refine wpList_append_own _ rfl _ _ 41 rfl w.heap.size 9 i0 (.string ⟨#[]⟩) 1 16 Tryz.underlying41 hi hz0 hz1 hz2 rfl (by decide) _ done.length _ rfl (HO.out.alloc _) ⟨wr.heap.size, 0, none⟩ 1 1 [.string (s.extract f s.size)] rfl rfl (cell_one_new _ _ _) (by simp [Value.oneCell']) (by simp [maxLen]; omega) (by omega) (by simp; omega) ?_; intro v' w3 hown3 hgr3 _)
        )
      go_ret
      refine ⟨(hb.alloc hbs _).grown hgr3 (by rw [World.size_alloc]; omega) (fun j e => own_ge HO.out e), _, rfl, ?_⟩
      have hE : pF c [] s.data.toList = done ++ [mid s.data.toList f s.size] := by
        rw [HP.out, List.drop_of_length_le (by rw [length_data]; exact Nat.le_refl _)]
        rfl
      rw [hE, List.length_append, List.map_append]
      have := hown3
      rw [ext_mid s f s.size hf (Nat.le_refl _)] at this
      exact this
end Go.Proofs.YtoapfldmkpobmaaGreatDoor
