/- Layer 1: what the law on inverses wants, in one text. -/
import Derived.Test.YtoapfldmkpobmaaDoorJb
import Derived.Test.YtoapfldmkpobmaaDoorSA
import Derived.Test.YtoapfldmkpobmaaDoorDoor0
import Derived.Test.YtoapfldmkpobmaaDoorZ
import Derived.Test.YtoapfldmkpobmaaDoorQr
import Derived.Test.YtoapfldmkpobmaaDoorPh
import Derived.Test.YtoapfldmkpobmaaDoorY
import Derived.BigQuiet
import Derived.Test.YtoapfldmkpobmaaDoorQs
import Derived.Test.YtoapfldmkpobmaaDoorQu
import Derived.Test.YtoapfldmkpobmaaDoorQi
import Derived.Test.YtoapfldmkpobmaaDoorW
import Derived.ChangeSlices
/- Layer 1: the law on Join, walked. -/
namespace Go.Proofs.YtoapfldmkpobmaaDoor
open Go.RowKit
def FarPost (w : World) (n : Nat) (e : Ending) (w' : World) : Prop := w = w' ∧ ∃ b, e = .returned (.bool b) ∧ (b = false → n ≤ 70)
set_option maxHeartbeats 800000 in
set_option maxRecDepth 100000 in
theorem far_any (v : Value) (xs : List Item) (w : World) (hv : FSl w v xs) : Calls Tryd.prog 5 #[v] w (FarPost w xs.length) := by
  obtain ⟨p, c, rfl, hv⟩ := hv
  obtain ⟨n, hn⟩ : ∃ n, n = xs.length := ⟨_, rfl⟩
  rw [← hn]
  have HV := Lib.hid hv
  have HN := Lib.hid hn
  clear hv hn
  by_cases h70 : 70 < n
  · have hb : decide ((70 : Int) < (n : Int)) = true := decide_eq_true (by omega)
    clear h70
    go_enter Tryd.func5, Tryd.ntmps5
    go_wp2
    go_ret
    exact ⟨rfl, true, rfl, fun h => by cases h⟩
  have hb : decide ((70 : Int) < (n : Int)) = false := decide_eq_false (by omega)
  go_enter Tryd.func5, Tryd.ntmps5
  go_wp2
  go_loop [3, 4] (fun t i => ∃ k m : Nat, k ≤ n ∧ i = .int .i64 k ∧ t = .int .i64 m ∧ m ≤ 2100 * k) (fun _ i => n - (intOf i).toNat)
  case atStart => exact ⟨0, 0, Nat.zero_le _, rfl, rfl, by omega⟩
  case round =>
    obtain ⟨k, m, hk, rfl, rfl, hm⟩ := hrel
    by_cases hlt : k < n
    · obtain ⟨x, hx⟩ : ∃ x, xs[k]? = some x := ⟨_, List.getElem?_eq_getElem (by rw [← HN.out]; exact hlt)⟩
      have hltb : decide ((k : Int) < (n : Int)) = true := decide_eq_true (by omega)
      obtain ⟨b, o, rfl, y0, y1⟩ := HV.out k x hx
      obtain ⟨S, hS⟩ : ∃ S : ByteArray, S = ⟨x.s.toArray⟩ := ⟨_, rfl⟩
      rw [← hS] at y0
      clear hx hS
      by_cases h2 : 2100 < S.size
      · have ht : decide ((2100 : Int) < (S.size : Int)) = true := decide_eq_true (by omega)
        clear h2
        go_wp2
        go_ret
        exact ⟨rfl, true, rfl, fun h => by cases h⟩
      · have ht : decide ((2100 : Int) < (S.size : Int)) = false := decide_eq_false (by omega)
        have H2 := Lib.hid h2
        have hwr : IntKind.i64.wrap ((m : Int) + (S.size : Int)) = (m : Int) + (S.size : Int) := IntWalk.i64_in _ (by omega)
        go_wp2
        go_round
        case rel => exact ⟨k + 1, m + S.size, by omega, by go_num, by go_num, by omega⟩
        case measure => simp [intOf]; omega
    · have hltb : decide ((k : Int) < (n : Int)) = false := decide_eq_false (by omega)
      by_cases h12 : 12000 < m
      · have ht : decide ((12000 : Int) < (m : Int)) = true := decide_eq_true (by omega)
        clear h12
        go_wp2
        go_ret
        exact ⟨rfl, true, rfl, fun h => by cases h⟩
      · have ht : decide ((12000 : Int) < (m : Int)) = false := decide_eq_false (by omega)
        clear h12
        go_wp2
        go_ret
        exact ⟨rfl, false, rfl, fun _ => by omega⟩
end Go.Proofs.YtoapfldmkpobmaaDoor

/- Layer 1: the law on Split, walked. -/
namespace Go.Proofs.YtoapfldmkpobmaaDoor
open Go.RowKit
def spX (l : List UInt8) : List Item := if spE l = 0 then fAll l else []
theorem sp_fsl {w w' : World} {l : List UInt8} {e : Ending} (h : SpPost w l e w') : Below w.heap.size w w' ∧ ∃ v, e = .returned (.tuple #[v, .int .i64 (spE l)]) ∧ FSl w' v (spX l) := by
  obtain ⟨hb, v, he, h0, h1⟩ := h
  refine ⟨hb, v, he, ?_⟩
  unfold spX
  by_cases hz : spE l = 0
  · rw [if_pos hz]; exact FSl.of_own (h0 hz).1
  · rw [if_neg hz, h1 hz]; exact ⟨none, 0, rfl, fun i x hx => by simp at hx⟩
theorem spX_len (l : List UInt8) : (spX l).length ≤ l.length + 1 := by
  unfold spX; split
  · exact fAll_len l
  · simp
theorem same_self (xs : List Item) : sameL xs xs = true := by unfold sameL; simp
end Go.Proofs.YtoapfldmkpobmaaDoor

/- A slice of fields that came in, opened. -/
namespace Go.Proofs.YtoapfldmkpobmaaDoor
open Go.ChangeShapes Go.WideShapes Go.ChangeAt Go.ChangeMaps Go.RowKit
set_option maxRecDepth 100000 in
/-- A slice of fields that came in. -/
theorem open_fields {H : Type} {enc : TypeId × Value → H} {W : World} {r : Reach} {b0 fuel : Nat} {v : Value} {d : DataW H} {ps : List MemPlace} (hval : Value.okWide Tryd.prog W r b0 22 v)
    (h : DataW.trod enc Tryd.prog W 0 (fun _ => true) true fuel 22 v.cells.toList = some (d, ps)) : ∃ xs, FSl W v xs := by
  obtain ⟨a, len, cap, rfl⟩ := okWide_slice Tryd.underlying22 hval
  rcases DataW.trod_slice Tryd.underlying22 h with ⟨hcs, _⟩ | ⟨x, l, c, elems, rest, n, _, hcs, _, _, hl, hm, hel, hat, _⟩
  · simp [Value.cells] at hcs
    obtain ⟨rfl, rfl, rfl⟩ := hcs
    exact ⟨[], none, 0, rfl, fun i x hx => by simp at hx⟩
  · simp [Value.cells] at hcs
    obtain ⟨rfl, rfl, rfl⟩ := hcs
    have ce : Tryd.prog.cellsOf 46 = 2 := by kernel_rfl
    have cs : Tryd.prog.cellsOf 9 = 1 := by kernel_rfl
    have cb : Tryd.prog.cellsOf 4 = 1 := by kernel_rfl
    rw [ce] at hat
    have key : ∀ i, i < len → ∃ s q, W.cell? ((x.add (i * 2)).add 0) = some (.string s) ∧ W.cell? ((x.add (i * 2)).add 1) = some (.bool q) := by
      intro i hi
      have h1 := hat i hi
      have h2 : elems[i]? = some elems[i] := List.getElem?_eq_getElem (by omega)
      rw [h2] at h1
      obtain ⟨l2, hc, ht⟩ := Option.bind_eq_some_iff.1 h1
      unfold World.cells? at hc
      rw [if_pos (Nat.zero_le _)] at hc
      simp [List.range_succ, List.mapM_cons, Option.bind_eq_some_iff] at hc
      obtain ⟨c0, hc0, _, ⟨c1, hc1, rfl⟩, rfl⟩ := hc
      obtain ⟨ys, m, _, _, _, hyl, hf⟩ := DataW.trod_struct Tryd.underlying46 ht
      match ys, hyl, hf with
      | [y0, y1], _, hf =>
        have hy0 : DataW.trod enc Tryd.prog W 0 (fun _ => true) true m 9 (([c0, c1].drop 0).take (Tryd.prog.cellsOf 9)) = some y0 := hf 0 _ rfl
        have hy1 : DataW.trod enc Tryd.prog W 0 (fun _ => true) true m 4 (([c0, c1].drop 1).take (Tryd.prog.cellsOf 4)) = some y1 := hf 1 _ rfl
        rw [cs] at hy0
        rw [cb] at hy1
        obtain ⟨s, hs, _⟩ := DataW.trod_string Tryd.underlying9 hy0
        obtain ⟨q, hq, _⟩ := DataW.trod_bool Tryd.underlying4 hy1
        simp at hs hq
        subst hs; subst hq
        exact ⟨s, q, hc0, hc1⟩
    obtain ⟨bk, o, sp⟩ := x
    have ad : ∀ j, W.cell? ((⟨bk, o, none⟩ : Addr).add j) = W.cell? ⟨bk, o + j, none⟩ := fun j => by cases j <;> simp [Addr.add]
    have hsp : 0 < len → sp = none := by
      intro h0
      obtain ⟨s, q, h1, _⟩ := key 0 h0
      simp only [Nat.zero_mul, Addr.add, if_true] at h1
      cases sp with
      | none => rfl
      | some z =>
        unfold World.cell? at h1
        simp at h1
        split at h1 <;> cases h1
    let it : Nat → Item := fun i => ⟨match W.cell? ⟨bk, o + i * 2, none⟩ with | some (.string s) => s.data.toList | _ => [], match W.cell? ⟨bk, o + i * 2 + 1, none⟩ with | some (.bool q) => q | _ => false, true⟩
    refine ⟨(List.range len).map it, _, cap, by rw [List.length_map, List.length_range], fun i x hx => ?_⟩
    rw [List.getElem?_map] at hx
    by_cases hi : i < len
    · rw [List.getElem?_range hi] at hx
      obtain rfl := Option.some.inj hx
      obtain rfl := hsp (by omega)
      obtain ⟨s, q, h1, h2⟩ := key i hi
      have e1 : W.cell? ⟨bk, o + i * 2, none⟩ = some (.string s) := by
        rw [← ad]; simpa [Addr.add] using h1
      have e2 : W.cell? ⟨bk, o + i * 2 + 1, none⟩ = some (.bool q) := by
        have : ((⟨bk, o, none⟩ : Addr).add (i * 2)).add 1 = ⟨bk, o + i * 2 + 1, none⟩ := by
          by_cases h : i * 2 = 0 <;> simp [Addr.add, h]
        rw [← this]; exact h2
      exact ⟨bk, o, rfl, by rw [e1]; simp [it, e1], by rw [e2]; simp [it, e2]⟩
    · rw [List.getElem?_eq_none (by simpa using hi)] at hx; cases hx
end Go.Proofs.YtoapfldmkpobmaaDoor

/- Layer 1: List and ParseList are inverse to each other, plain. -/
namespace Go.Proofs.YtoapfldmkpobmaaDoor
/-- Runs, each of which begins two at least behind the end of the one before it. -/
def Ch : Option Int → List (Int × Int) → Prop
  | _, [] => True
  | p, q :: r => (0 ≤ q.1 ∧ q.1 ≤ q.2 ∧ q.2 ≤ 1000000000) ∧ (∀ l, p = some l → l + 1 < q.1) ∧ Ch (some q.2) r
def wrP (q : Int × Int) : List UInt8 := wrS q.1 q.2
def upP (q : Int × Int) : List Int := upL q.1 (q.2 - q.1 + 1).toNat
theorem upL_cons (a : Int) (n : Nat) : upL a (n + 1) = a :: upL (a + 1) n := by
  unfold upL
  rw [List.range_succ_eq_map, List.map_cons, List.map_map]
  congr 1
  · simp
  · apply List.map_congr_left; intro i _; simp only [Function.comp_apply, Nat.succ_eq_add_one, Int.natCast_add]; omega
theorem upP_cons {q : Int × Int} (h : q.1 ≤ q.2) : upP q = q.1 :: upL (q.1 + 1) (q.2 - q.1).toNat := by
  unfold upP
  rw [show (q.2 - q.1 + 1).toNat = (q.2 - q.1).toNat + 1 by omega, upL_cons]
theorem runTail_up : ∀ (n : Nat) (x : Int) (rest : List Int), (∀ h, rest.head? = some h → h ≠ x + (n : Int) + 1) → runTail x (upL (x + 1) n ++ rest) = n
  | 0, x, rest, h => by
    show runTail x rest = 0
    cases rest with
    | nil => rfl
    | cons y r => unfold runTail; rw [if_neg (by have := h y rfl; simpa using this)]
  | n + 1, x, rest, h => by
    rw [upL_cons, List.cons_append]
    unfold runTail
    rw [if_pos rfl, runTail_up n (x + 1) rest (fun z hz => by have := h z hz; rw [Int.natCast_add] at this; omega)]
theorem head_flat {p : Option Int} {r : List (Int × Int)} (h : Ch p r) : ∀ z, (r.flatMap upP).head? = some z → ∃ q t, r = q :: t ∧ z = q.1 := by
  intro z hz
  cases r with
  | nil => simp at hz
  | cons q t =>
    rw [List.flatMap_cons, upP_cons h.1.2.1] at hz
    simp at hz
    exact ⟨q, t, rfl, hz.symm⟩
theorem getD_up (a : Int) : ∀ (n : Nat) (rest : List Int), (upL a (n + 1) ++ rest).getD n 0 = a + (n : Int) := by
  intro n rest
  rw [List.getD_eq_getElem?_getD, List.getElem?_append_left (by rw [upL_len]; omega), upL_succ, List.getElem?_append_right (by rw [upL_len]; omega), upL_len, Nat.sub_self]
  rfl
theorem runs_pairs : ∀ (ps : List (Int × Int)) (p : Option Int), Ch p ps → runsG (ps.flatMap upP) = ps.map wrP
  | [], _, _ => rfl
  | q :: r, p, h => by
    obtain ⟨hq, _, hr⟩ := h
    have ih := runs_pairs r _ hr
    obtain ⟨n, hn⟩ : ∃ n : Nat, q.2 - q.1 = (n : Int) := ⟨(q.2 - q.1).toNat, by omega⟩
    have e1 : (q :: r).flatMap upP = q.1 :: (upL (q.1 + 1) n ++ r.flatMap upP) := by
      rw [List.flatMap_cons, upP_cons hq.2.1, hn]; simp
    have e2 : (q :: r).flatMap upP = upL q.1 (n + 1) ++ r.flatMap upP := by
      rw [e1, upL_cons]; rfl
    have hT : runTail q.1 (upL (q.1 + 1) n ++ r.flatMap upP) = n := runTail_up n q.1 _ fun z hz => by
      obtain ⟨q', t, rfl, rfl⟩ := head_flat hr z hz
      have := hr.2.1 q.2 rfl
      omega
    have hL : runLen (q.1 :: (upL (q.1 + 1) n ++ r.flatMap upP)) = n + 1 := by show runTail q.1 (upL (q.1 + 1) n ++ r.flatMap upP) + 1 = n + 1; rw [hT]
    rw [e1, runsG_cons, hL, ← e1, e2, Nat.add_sub_cancel, getD_up, List.drop_append_of_le_length (by rw [upL_len]; omega), List.drop_of_length_le (by rw [upL_len]; omega), List.nil_append, ih]
    show wrS q.1 (q.1 + (n : Int)) :: r.map wrP = wrS q.1 q.2 :: r.map wrP
    rw [show q.1 + (n : Int) = q.2 by omega]
theorem pairs_of : ∀ (xs : List Int) (p : Option Int), (∀ z ∈ xs, 0 ≤ z ∧ z ≤ 1000000000) → (∀ i, i + 1 < xs.length → xs.getD i 0 < xs.getD (i + 1) 0) → (∀ l, p = some l → ∀ z, xs.head? = some z → l + 1 < z) → ∃ ps, Ch p ps ∧ ps.flatMap upP = xs
  | [], p, _, _, _ => ⟨[], trivial, rfl⟩
  | x :: r, p, hr, ha, hp => by
    obtain ⟨ps, hc, he⟩ := pairs_of r none (fun z hz => hr z (List.mem_cons_of_mem _ hz)) (fun i hi => by have := ha (i + 1) (by simp; omega); simpa using this) (fun l h => by cases h)
    have hx := hr x List.mem_cons_self
    have hp' : ∀ l, p = some l → l + 1 < x := fun l h => hp l h x rfl
    cases ps with
    | nil =>
      have : r = [] := he.symm
      subst this
      refine ⟨[(x, x)], ⟨⟨hx.1, Int.le_refl _, hx.2⟩, hp', trivial⟩, ?_⟩
      rw [List.flatMap_cons, upP_cons (Int.le_refl _)]
      show x :: upL (x + 1) (x - x).toNat ++ [] = [x]
      rw [Int.sub_self]; rfl
    | cons q t =>
      obtain ⟨hq, _, ht⟩ := hc
      have e1 : r = q.1 :: (upL (q.1 + 1) (q.2 - q.1).toNat ++ t.flatMap upP) := by rw [← he, List.flatMap_cons, upP_cons hq.2.1]; rfl
      have hlt : x < q.1 := by
        have := ha 0 (by rw [e1]; simp)
        rw [e1] at this
        simpa using this
      by_cases h1 : q.1 = x + 1
      · refine ⟨(x, q.2) :: t, ⟨⟨hx.1, by show x ≤ q.2; omega, hq.2.2⟩, hp', ht⟩, ?_⟩
        rw [List.flatMap_cons, upP_cons (by show x ≤ q.2; omega), ← he, List.flatMap_cons]
        show x :: upL (x + 1) (q.2 - x).toNat ++ t.flatMap upP = x :: (upP q ++ t.flatMap upP)
        unfold upP
        rw [h1, show (q.2 - (x + 1) + 1).toNat = (q.2 - x).toNat by omega]; rfl
      · refine ⟨(x, x) :: q :: t, ⟨⟨hx.1, Int.le_refl _, hx.2⟩, hp', hq, fun l h => by cases h; show x + 1 < q.1; omega, ht⟩, ?_⟩
        rw [List.flatMap_cons, upP_cons (Int.le_refl _), he]
        show x :: upL (x + 1) (x - x).toNat ++ r = x :: r
        rw [Int.sub_self]; rfl
/-- The numbers of runs ascend, and are in range. -/
def Asc : Int → List Int → Prop
  | _, [] => True
  | lo, z :: r => lo < z ∧ Asc z r
theorem asc_up : ∀ (n : Nat) (lo a : Int) (rest : List Int), lo < a → Asc (a + (n : Int)) rest → Asc lo (upL a (n + 1) ++ rest)
  | 0, lo, a, rest, h, hr => by
    rw [upL_cons]; exact ⟨h, by show Asc a rest; simpa using hr⟩
  | n + 1, lo, a, rest, h, hr => by
    rw [upL_cons]
    exact ⟨h, asc_up n a (a + 1) rest (by omega) (by rw [show a + 1 + (n : Int) = a + ((n + 1 : Nat) : Int) by omega]; exact hr)⟩
theorem asc_flat : ∀ (ps : List (Int × Int)) (lo : Int), Ch (some lo) ps → Asc lo (ps.flatMap upP)
  | [], _, _ => trivial
  | q :: r, lo, h => by
    obtain ⟨hq, hp, hr⟩ := h
    have := hp lo rfl
    rw [List.flatMap_cons]
    unfold upP
    rw [show (q.2 - q.1 + 1).toNat = (q.2 - q.1).toNat + 1 by omega]
    exact asc_up _ _ _ _ (by omega) (by rw [show q.1 + ((q.2 - q.1).toNat : Int) = q.2 by omega]; exact asc_flat r q.2 hr)
theorem asc_getD : ∀ (xs : List Int) (lo : Int), Asc lo xs → ∀ i, i + 1 < xs.length → xs.getD i 0 < xs.getD (i + 1) 0
  | [], _, _, i, h => by simp at h
  | [x], _, _, i, h => by simp at h
  | x :: y :: r, lo, h, 0, _ => h.2.1
  | x :: y :: r, lo, h, i + 1, hi => by
    have := asc_getD (y :: r) x h.2 i (by simpa using hi)
    simpa using this
theorem ch_up {p : Option Int} {q : Option Int} {ps : List (Int × Int)} (h : Ch p ps) (e : ∀ a t, ps = a :: t → ∀ l, q = some l → l + 1 < a.1) : Ch q ps := by
  cases ps with
  | nil => trivial
  | cons a t => exact ⟨h.1, e a t rfl, h.2.2⟩
theorem ch_rng : ∀ (ps : List (Int × Int)) (p : Option Int), Ch p ps → ∀ z ∈ ps.flatMap upP, 0 ≤ z ∧ z ≤ 1000000000
  | [], _, _, z, hz => by simp at hz
  | q :: r, p, h, z, hz => by
    rw [List.flatMap_cons, List.mem_append] at hz
    rcases hz with hz | hz
    · unfold upP upL at hz
      obtain ⟨i, hi, rfl⟩ := List.mem_map.1 hz
      have := List.mem_range.1 hi
      have hq := h.1
      omega
    · exact ch_rng r _ h.2.2 z hz
theorem listE_flat {ps : List (Int × Int)} (h : Ch none ps) (hl : (ps.flatMap upP).length ≤ 500) : listE (ps.flatMap upP) = 0 := by
  have h1 : inR (ps.flatMap upP) = true := by
    unfold inR
    rw [List.all_eq_true]
    intro z hz
    have := ch_rng ps _ h z hz
    simp; omega
  have h2 : ascL (ps.flatMap upP) = true := asc_good (asc_getD _ (-2) (asc_flat ps (-2) (ch_up h fun a t e l hl => by cases hl; have := (e ▸ h).1.1; omega)))
  unfold listE
  rw [if_neg (by omega), if_pos h1, if_pos h2]
theorem listE_parts {xs : List Int} (h : listE xs = 0) : xs.length ≤ 500 ∧ (∀ z ∈ xs, 0 ≤ z ∧ z ≤ 1000000000) ∧ (∀ i, i + 1 < xs.length → xs.getD i 0 < xs.getD (i + 1) 0) := by
  unfold listE at h
  by_cases h1 : 500 < xs.length
  · rw [if_pos h1] at h; cases h
  rw [if_neg h1] at h
  by_cases h2 : inR xs = true
  · rw [if_pos h2] at h
    by_cases h3 : ascL xs = true
    · refine ⟨by omega, fun z hz => ?_, fun i hi => ?_⟩
      · unfold inR at h2
        have := List.all_eq_true.1 h2 z hz
        simpa using this
      · unfold ascL at h3
        have := List.all_eq_true.1 h3 i (List.mem_range.2 (by omega))
        simpa using this
    · rw [if_neg h3] at h; cases h
  · rw [if_neg h2] at h; cases h
theorem wr_no {a b : Int} (ha : 0 ≤ a) (hb : 0 ≤ b) : ∀ c ∈ wrS a b, c ≠ 44 := by
  intro c hc e
  subst e
  obtain ⟨na, _⟩ := itoa_nat ha
  obtain ⟨nb, _⟩ := itoa_nat hb
  unfold wrS at hc
  split at hc
  · exact (nat_no na).2 hc
  · simp only [List.mem_append] at hc
    rcases hc with (hc | hc) | hc
    · exact (nat_no na).2 hc
    · simp at hc
    · exact (nat_no nb).2 hc
theorem data_inj {a b : ByteArray} (h : a.data.toList = b.data.toList) : a = b := ByteArray.ext (Array.ext' h)
theorem map_data_inj : ∀ {L M : List ByteArray}, L.map (·.data.toList) = M.map (·.data.toList) → L = M
  | [], [], _ => rfl
  | [], b :: m, h => by simp at h
  | a :: l, [], h => by simp at h
  | a :: l, b :: m, h => by
    simp only [List.map_cons, List.cons.injEq] at h
    rw [data_inj h.1, map_data_inj h.2]
def wB (q : Int × Int) : ByteArray := wrB q.1 q.2
def itB (l : Int) : ByteArray := ⟨(Lib.itoa l).toArray⟩
theorem suc_itoa {l : Int} (h : 0 ≤ l) : sucS (itB l) = itB (l + 1) := by
  unfold sucS itB Lib.itoa
  rw [if_neg (by omega), if_neg (by omega)]
  show (⟨(sucL (Lib.decDigits _)).toArray⟩ : ByteArray) = _
  rw [suc_dec]
  congr 3
  omega
theorem spans_ok : ∀ (ps : List (Int × Int)) (p : Option Int), (∀ l, p = some l → 0 ≤ l) → Ch p ps → spansB (p.map itB) (ps.map wB) = true
  | [], p, _, _ => by cases p <;> rfl
  | q :: r, p, hp, h => by
    obtain ⟨hq, hc, hr⟩ := h
    obtain ⟨f1, f2, f3, _⟩ := run_read hq.1 hq.2.1 hq.2.2
    have ih := spans_ok r (some q.2) (fun l h => by cases h; omega) hr
    rw [List.map_cons]
    unfold spansB
    have e1 : spB (wB q) = true := f3
    have e2 : spL (wB q) = itB q.2 := f2
    have e3 : spF (wB q) = itB q.1 := f1
    rw [e1, e2, e3]
    have e4 : spansB (some (itB q.2)) (r.map wB) = true := ih
    rw [e4]
    cases p with
    | none => rfl
    | some l =>
      have hl := hp l rfl
      have hlt := hc l rfl
      obtain ⟨n1, v1⟩ := itoa_nat (a := l + 1) (by omega)
      obtain ⟨n2, v2⟩ := itoa_nat hq.1
      have : lowB (sucS (itB l)) (itB q.1) = true := by
        rw [suc_itoa hl]
        exact low_of_lt (a := itB (l + 1)) (b := itB q.1) n1 n2 (by show natFrom 0 (Lib.itoa (l + 1)) < natFrom 0 (Lib.itoa q.1); rw [v1, v2]; omega)
      show (true && (lowB (sucS (itB l)) (itB q.1) && true)) = true
      rw [this]; rfl
theorem flat_seq {ps : List (Int × Int)} : ∀ {p : Option Int}, Ch p ps → (ps.map wB).flatMap seqL = ps.flatMap upP := by
  induction ps with
  | nil => intro _ _; rfl
  | cons q r ih =>
    intro p h
    obtain ⟨hq, _, hr⟩ := h
    obtain ⟨_, _, _, f4, f5, _⟩ := run_read hq.1 hq.2.1 hq.2.2
    rw [List.map_cons, List.flatMap_cons, List.flatMap_cons, ih hr]
    congr 1
    show upL (numF (wrB q.1 q.2)) (numL (wrB q.1 q.2) - numF (wrB q.1 q.2) + 1).toNat = _
    rw [f4, f5]; rfl
theorem last_zero {ps : List (Int × Int)} : ∀ {p : Option Int}, Ch p ps → lastE (ps.map wB) = 0 ∧ ∀ x ∈ ps.map wB, numF x ≤ numL x := by
  induction ps with
  | nil => intro _ _; exact ⟨rfl, fun x hx => by simp at hx⟩
  | cons q r ih =>
    intro p h
    obtain ⟨hq, _, hr⟩ := h
    obtain ⟨_, _, _, f4, f5, f6⟩ := run_read hq.1 hq.2.1 hq.2.2
    obtain ⟨i1, i2⟩ := ih hr
    rw [List.map_cons]
    refine ⟨?_, fun x hx => ?_⟩
    · unfold lastE
      have : errL (wB q) = 0 := f6
      rw [this, if_neg (by simp)]; exact i1
    · rcases List.mem_cons.1 hx with rfl | hx
      · show numF (wrB q.1 q.2) ≤ numL (wrB q.1 q.2)
        rw [f4, f5]; exact hq.2.1
      · exact i2 x hx
/-- ParseList of List. -/
theorem list_parse {xs : List Int} (h : listE xs = 0) (hne : xs ≠ []) : parseLE ⟨(listS xs).toArray⟩ = 0 ∧ (listS xs) ≠ [45] ∧ (commaP ⟨(listS xs).toArray⟩).flatMap seqL = xs := by
  obtain ⟨h1, h2, h3⟩ := listE_parts h
  obtain ⟨ps, hc, hf⟩ := pairs_of xs none h2 h3 (fun l h => by cases h)
  have hps : ps ≠ [] := by rintro rfl; exact hne hf.symm
  have hS : listS xs = Lib.join (ps.map wrP) [44] := by
    unfold listS
    rw [if_pos h, if_neg hne, ← hf, runs_pairs ps _ hc]
  have hno : ∀ x ∈ ps.map wrP, ∀ c ∈ x, c ≠ 44 := by
    have : ∀ (ps : List (Int × Int)) (p : Option Int), Ch p ps → ∀ x ∈ ps.map wrP, ∀ c ∈ x, c ≠ 44 := by
      intro ps
      induction ps with
      | nil => intro p _ x hx; simp at hx
      | cons q r ih =>
        intro p h x hx
        rcases List.mem_cons.1 (by rw [List.map_cons] at hx; exact hx) with rfl | hx
        · exact wr_no h.1.1 (by have := h.1; omega)
        · exact ih _ h.2.2 x hx
    exact this ps _ hc
  have hcm : commaP ⟨(listS xs).toArray⟩ = ps.map wB := by
    apply map_data_inj
    rw [commaP_list]
    show c_parts (listS xs) = _
    rw [hS, c_join _ (by simpa using hps) hno, List.map_map]
    rfl
  have hsp : spansB none (commaP ⟨(listS xs).toArray⟩) = true := by rw [hcm]; exact spans_ok ps none (fun l h => by cases h) hc
  have h45 : listS xs ≠ [45] := by
    intro e
    rw [e] at hsp
    revert hsp
    decide +kernel
  obtain ⟨l1, l2⟩ := last_zero hc
  have hseq : (commaP ⟨(listS xs).toArray⟩).flatMap seqL = xs := by rw [hcm, flat_seq hc, hf]
  refine ⟨?_, h45, hseq⟩
  unfold parseLE
  rw [if_neg (by show ¬ listS xs = [45]; exact h45), if_neg (by rw [hsp]; simp), hcm, l1, if_neg (by simp)]
  have := seq_len (ps.map wB) l2
  rw [← hcm, hseq, hcm] at this
  rw [if_neg (by omega)]
theorem cut_first {c : UInt8} : ∀ {l : List UInt8}, c ∈ l → ∃ a b, l = a ++ c :: b ∧ c ∉ a
  | [], h => by cases h
  | x :: r, h => by
    by_cases hx : x = c
    · exact ⟨[], r, by rw [hx]; rfl, by simp⟩
    · obtain ⟨a, b, rfl, ha⟩ := cut_first (c := c) (l := r) (by rcases List.mem_cons.1 h with e | e; exact absurd e.symm hx; exact e)
      exact ⟨x :: a, b, rfl, by intro hc; rcases List.mem_cons.1 hc with e | e; exact hx e.symm; exact ha e⟩
theorem cut_back (l : List UInt8) : ((Lib.cut l [45]).2.2 = true → l = (Lib.cut l [45]).1 ++ 45 :: (Lib.cut l [45]).2.1) ∧ ((Lib.cut l [45]).2.2 = false → (Lib.cut l [45]).1 = l) := by
  by_cases hm : (45 : UInt8) ∈ l
  · obtain ⟨a, b, rfl, ha⟩ := cut_first hm
    rw [cut_at ha]
    exact ⟨fun _ => rfl, fun h => by cases h⟩
  · rw [cut_none hm]
    exact ⟨fun h => (by cases h), fun _ => rfl⟩
/-- A run that is read: its text. -/
theorem span_info {x : ByteArray} (h : spB x = true) (he : errL x = 0) : x.data.toList = wrS (numF x) (numL x) ∧ (0 ≤ numF x ∧ numF x ≤ numL x ∧ numL x ≤ 1000000000) ∧ spL x = itB (numL x) ∧ spF x = itB (numF x) := by
  have hle := num_le h he
  have r1 := intV_rng (spF x).data.toList
  have r2 := intV_rng (spL x).data.toList
  have key : ∀ (y : ByteArray), natL y.data.toList = true → outR y.data.toList 0 1000000000 = false → y = itB (intV y.data.toList 0 1000000000) := fun y hy ho => by
    obtain ⟨_, _, f3, f4⟩ := nat_form hy
    apply data_inj
    show _ = Lib.itoa _
    unfold intV
    rw [f3, ho, f4]
    simp only [Bool.not_false, Bool.and_true, if_true]
    unfold Lib.itoa
    rw [if_neg (by omega)]
    have := nat_dec _ hy
    rw [show ((natFrom 0 y.data.toList : Nat) : Int).toNat = natFrom 0 y.data.toList by omega, this]
  unfold spB at h
  rw [Bool.and_eq_true] at h
  obtain ⟨hF, h2⟩ := h
  have hcut := cut_back x.data.toList
  by_cases ht : (Lib.cut x.data.toList [45]).2.2 = true
  · rw [ht] at h2
    simp only [Bool.not_true, Bool.false_or, Bool.and_eq_true] at h2
    have hlt := nat_lower hF h2.1 h2.2
    obtain ⟨_, _, f3, f4⟩ := nat_form hF
    obtain ⟨_, _, l3, l4⟩ := nat_form h2.1
    unfold errL intE at he
    rw [l3, if_pos rfl] at he
    have ho' : outR (spL x).data.toList 0 1000000000 = false := by
      by_cases ho : outR (spL x).data.toList 0 1000000000 = true
      · rw [if_pos ho] at he; cases he
      · simpa using ho
    have hof : outR (spF x).data.toList 0 1000000000 = false := by
      unfold outR at ho' ⊢
      rw [l4] at ho'; rw [f4]
      simp at ho' ⊢; omega
    have kF := key _ hF hof
    have kL := key _ h2.1 ho'
    have hne : numF x ≠ numL x := by
      unfold numF numL intV
      rw [f3, l3, hof, ho', f4, l4]
      simp; omega
    refine ⟨?_, ⟨r1.1, hle, r2.2⟩, kL, kF⟩
    rw [hcut.1 ht]
    unfold wrS
    rw [if_neg hne]
    have e1 : (Lib.cut x.data.toList [45]).1 = (spF x).data.toList := rfl
    have e2 : (Lib.cut x.data.toList [45]).2.1 = (spL x).data.toList := by unfold spL; rw [if_pos ht]
    rw [e1, e2, kF, kL]
    show Lib.itoa _ ++ 45 :: Lib.itoa _ = Lib.itoa _ ++ [45] ++ Lib.itoa _
    rw [List.append_assoc]; rfl
  · have e0 : spL x = spF x := by unfold spL; rw [if_neg ht]
    have heq : numF x = numL x := by unfold numF numL; rw [e0]
    obtain ⟨_, _, f3, f4⟩ := nat_form hF
    unfold errL intE at he
    rw [e0, f3, if_pos rfl] at he
    have hof : outR (spF x).data.toList 0 1000000000 = false := by
      by_cases ho : outR (spF x).data.toList 0 1000000000 = true
      · rw [if_pos ho] at he; cases he
      · simpa using ho
    have kF := key _ hF hof
    refine ⟨?_, ⟨r1.1, hle, r2.2⟩, by rw [e0, ← heq]; exact kF, kF⟩
    have e1 : x.data.toList = (spF x).data.toList := (hcut.2 (by simpa using ht)).symm
    rw [e1]
    unfold wrS
    rw [if_pos heq]
    conv => lhs; rw [kF]
    rfl
theorem ch_of : ∀ (L : List ByteArray) (q : Option Int), (∀ l, q = some l → 0 ≤ l) → spansB (q.map itB) L = true → (∀ x ∈ L, spB x = true ∧ errL x = 0) → Ch q (L.map fun x => (numF x, numL x))
  | [], _, _, _, _ => trivial
  | x :: r, q, hq, h, ha => by
    obtain ⟨s1, s2⟩ := ha x List.mem_cons_self
    obtain ⟨_, hr, kL, kF⟩ := span_info s1 s2
    unfold spansB at h
    rw [Bool.and_eq_true, Bool.and_eq_true] at h
    obtain ⟨_, h2, h3⟩ := h
    rw [kL] at h3
    refine ⟨hr, fun l e => ?_, ch_of r (some (numL x)) (fun l e => by cases e; omega) h3 (fun y hy => ha y (List.mem_cons_of_mem _ hy))⟩
    subst e
    have hl := hq l rfl
    have h2' : lowB (sucS (itB l)) (spF x) = true := h2
    rw [suc_itoa hl, kF] at h2'
    obtain ⟨n1, v1⟩ := itoa_nat (a := l + 1) (by omega)
    obtain ⟨n2, v2⟩ := itoa_nat hr.1
    have := nat_lower (a := itB (l + 1)) (b := itB (numF x)) n1 n2 h2'
    have e1 : natFrom 0 (itB (l + 1)).data.toList = (l + 1).toNat := v1
    have e2 : natFrom 0 (itB (numF x)).data.toList = (numF x).toNat := v2
    rw [e1, e2] at this
    show l + 1 < numF x
    omega
theorem joinD_eq : ∀ (ps : List (List UInt8)), c_joinD ps = Lib.join ps [44]
  | [] => rfl
  | [p] => by rw [Lib.join_cons]; unfold Lib.joinTail; simp [c_joinD]
  | p :: q :: r => by
    have e : Lib.join (p :: q :: r) [44] = p ++ 44 :: Lib.join (q :: r) [44] := by
      rw [Lib.join_cons, Lib.join_cons]
      unfold Lib.joinTail
      simp
    rw [e, ← joinD_eq (q :: r)]; rfl
/-- List of ParseList. -/
theorem parse_list {s : ByteArray} (h45 : s.data.toList ≠ [45]) (h : parseLE s = 0) : listE ((commaP s).flatMap seqL) = 0 ∧ listS ((commaP s).flatMap seqL) = s.data.toList ∧ (commaP s).flatMap seqL ≠ [] := by
  unfold parseLE at h
  rw [if_neg h45] at h
  by_cases h1 : spansB none (commaP s) = false
  · rw [if_pos h1] at h; cases h
  rw [if_neg h1] at h
  have h1' : spansB none (commaP s) = true := by simpa using h1
  by_cases h2 : lastE (commaP s) ≠ 0
  · rw [if_pos h2] at h; exact absurd h h2
  rw [if_neg h2] at h
  have h2' : lastE (commaP s) = 0 := by simpa using h2
  by_cases h3 : 500 < manyL (commaP s)
  · rw [if_pos h3] at h; cases h
  have hall := spans_all _ none h1' h2'
  have hc : Ch none ((commaP s).map fun x => (numF x, numL x)) := ch_of _ none (fun l e => by cases e) h1' hall
  have hflat : (commaP s).flatMap seqL = ((commaP s).map fun x => (numF x, numL x)).flatMap upP := by
    rw [List.flatMap_map]; rfl
  have hlen := seq_len (commaP s) fun x hx => num_le (hall x hx).1 (hall x hx).2
  have hE : listE ((commaP s).flatMap seqL) = 0 := by rw [hflat]; exact listE_flat hc (by rw [← hflat]; omega)
  have hmap : ((commaP s).map fun x => (numF x, numL x)).map wrP = c_parts s.data.toList := by
    rw [← commaP_list, List.map_map]
    apply List.map_congr_left
    intro x hx
    exact (span_info (hall x hx).1 (hall x hx).2).1.symm
  have hne : (commaP s).flatMap seqL ≠ [] := by
    have h0 := c_parts_ne s.data.toList
    rw [hflat]
    cases hL : (commaP s).map (fun x => (numF x, numL x)) with
    | nil => rw [hL] at hmap; exact absurd hmap.symm h0
    | cons q r =>
      rw [hL] at hc
      rw [List.flatMap_cons, upP_cons hc.1.2.1]
      simp
  refine ⟨hE, ?_, hne⟩
  unfold listS
  rw [if_pos hE, if_neg hne, hflat, runs_pairs _ _ hc, hmap, ← joinD_eq, c_joinD_parts]
end Go.Proofs.YtoapfldmkpobmaaDoor

/- Layer 1: ParseList at every string; the law's comparison of lists. -/
namespace Go.Proofs.YtoapfldmkpobmaaDoor
open Go.RowKit
set_option maxRecDepth 100000 in
theorem parse_dash (s : ByteArray) (w : World) (h45 : s.data.toList = [45]) : Calls Tryd.prog 13 #[.string s] w fun e w' => e = .returned (.tuple #[.slice none 0 0, .int .i64 0]) ∧ Below w.heap.size w w' := by
  have hne : (s.toList == [45]) = true := by
    rw [beq_iff_eq, toList_data]; exact h45
  have hb := Below.refl w.heap.size w
  go_enter Tryd.func13, Tryd.ntmps13
  go_wp2
  go_ret2
  exact ⟨rfl, hb⟩
def plS (s : ByteArray) : List Int := if s.data.toList = [45] then [] else (commaP s).flatMap seqL
theorem ISl.of_own {w : World} {B : Nat} {v : Value} {xs : List Int} (h : w.ownsRow B 3 1 v xs.length (xs.map i64v)) : ISl w v xs := by
  by_cases h0 : 1 ≤ xs.length
  · obtain ⟨g, cap, e, _, _, hc⟩ := own_row h h0
    refine ⟨_, cap, e, fun i z hz => ⟨g, 0, rfl, ?_⟩⟩
    exact hc i _ (by rw [List.getElem?_map, hz]; rfl)
  · obtain ⟨p, c, e⟩ := own_shape h
    refine ⟨p, c, e, fun i z hz => ?_⟩
    have := (List.getElem?_eq_some_iff.1 hz).1
    omega
theorem parse_any (s : ByteArray) (w : World) (hw : LW w) (hs : s.size ≤ 1000000000) : Calls Tryd.prog 13 #[.string s] w fun e w' => Below w.heap.size w w' ∧ ∃ v, e = .returned (.tuple #[v, .int .i64 (parseLE s)]) ∧ (parseLE s = 0 → ISl w' v (plS s)) := by
  by_cases h45 : s.data.toList = [45]
  · refine (parse_dash s w h45).mono fun e w' h => ⟨h.2, .slice none 0 0, ?_, fun _ => ?_⟩
    · rw [h.1]
      have : parseLE s = 0 := by unfold parseLE; rw [if_pos h45]
      rw [this]
    · unfold plS; rw [if_pos h45]
      exact ⟨none, 0, rfl, fun i z hz => by simp at hz⟩
  · by_cases hE : parseLE s = 0
    · refine (parse_good s w hw hs h45 hE).mono fun e w' h => ?_
      obtain ⟨hb, v, B, _, he, ho⟩ := h
      refine ⟨hb, v, by rw [he, hE], fun _ => ?_⟩
      unfold plS; rw [if_neg h45]
      exact ISl.of_own ho
    · refine (parse_bad s w hw hs hE).mono fun e w' h => ?_
      exact ⟨h.2, _, h.1, fun h => absurd h hE⟩
theorem plS_list {xs : List Int} (h : listE xs = 0) : parseLE ⟨(listS xs).toArray⟩ = 0 ∧ plS ⟨(listS xs).toArray⟩ = xs := by
  by_cases hne : xs = []
  · subst hne
    have e : listS [] = [45] := by decide +kernel
    rw [e]
    constructor
    · decide +kernel
    · unfold plS; rw [if_pos rfl]
  · obtain ⟨h1, h2, h3⟩ := list_parse h hne
    refine ⟨h1, ?_⟩
    unfold plS
    rw [if_neg (by show ¬ listS xs = [45]; exact h2)]
    exact h3
theorem list_plS {s : ByteArray} (h : parseLE s = 0) : listE (plS s) = 0 ∧ listS (plS s) = s.data.toList := by
  by_cases h45 : s.data.toList = [45]
  · unfold plS
    rw [if_pos h45, h45]
    exact ⟨by decide +kernel, by decide +kernel⟩
  · obtain ⟨h1, h2, _⟩ := parse_list h45 h
    unfold plS
    rw [if_neg h45]
    exact ⟨h1, h2⟩
theorem ch_len : ∀ (ps : List (Int × Int)) (p : Option Int), Ch p ps → ps.length ≤ (ps.flatMap upP).length
  | [], _, _ => Nat.le_refl _
  | q :: r, p, h => by
    have ih := ch_len r _ h.2.2
    rw [List.flatMap_cons, upP_cons h.1.2.1]
    simp only [List.length_cons, List.length_append]
    omega
theorem ch_wr : ∀ (ps : List (Int × Int)) (p : Option Int), Ch p ps → ∀ x ∈ ps.map wrP, x.length ≤ 43
  | [], _, _, x, hx => by simp at hx
  | q :: r, p, h, x, hx => by
    rw [List.map_cons] at hx
    have hq := h.1
    rcases List.mem_cons.1 hx with rfl | hx
    · exact wrS_len q.1 q.2 (by omega) (by omega)
    · exact ch_wr r _ h.2.2 x hx
theorem listS_size (xs : List Int) (h : xs.length ≤ 1000) : (listS xs).length ≤ 1000000 := by
  unfold listS
  by_cases h0 : listE xs = 0
  · rw [if_pos h0]
    by_cases hne : xs = []
    · rw [if_pos hne]; simp
    · rw [if_neg hne]
      obtain ⟨h1, h2, h3⟩ := listE_parts h0
      obtain ⟨ps, hc, hf⟩ := pairs_of xs none h2 h3 (fun l h => by cases h)
      have hl := ch_len ps _ hc
      rw [hf] at hl
      have := join_len (ch_wr ps _ hc)
      rw [List.length_map] at this
      rw [← hf, runs_pairs ps _ hc]
      omega
  · rw [if_neg h0]; simp
set_option maxRecDepth 100000 in
theorem lists_any (a b : Value) (xs : List Int) (w : World) (ha : ISl w a xs) (hb : ISl w b xs) (hl : xs.length ≤ 1000000) :
    Calls Tryd.prog 14 #[a, b] w fun e w' => e = .returned (.bool true) ∧ ∃ d, w' = w.drewN d := by
  obtain ⟨p1, c1, rfl, ha⟩ := ha
  obtain ⟨p2, c2, rfl, hb⟩ := hb
  obtain ⟨n, hn⟩ : ∃ n, n = xs.length := ⟨_, rfl⟩
  have hne2 : ((n : Int) != (n : Int)) = false := by simp
  rw [← hn] at hl ⊢
  have HA := Lib.hid ha
  have HB := Lib.hid hb
  have HN := Lib.hid hn
  clear ha hb hn
  go_enter Tryd.func14, Tryd.ntmps14
  go_wp2
  go_loopw [5] (fun i wr => ∃ k : Nat, k ≤ n ∧ i = .int .i64 k ∧ ∃ d, wr = w.drewN d) (fun i _ => n - (intOf i).toNat)
  case atStart => exact ⟨0, Nat.zero_le _, rfl, 0, rfl⟩
  case round =>
    obtain ⟨k, hk, rfl, d, rfl⟩ := hrel
    by_cases hlt : k < n
    · obtain ⟨x, hx⟩ : ∃ x, xs[k]? = some x := ⟨_, List.getElem?_eq_getElem (by rw [← HN.out]; exact hlt)⟩
      obtain ⟨b1, o1, rfl, x0⟩ := HA.out k x hx
      obtain ⟨b2, o2, rfl, y0⟩ := HB.out k x hx
      have hltb : decide ((k : Int) < (n : Int)) = true := decide_eq_true (by omega)
      have hxx : (x != x) = false := by simp
      clear hx
      go_wp2
      go_quiet (fail)
      go_wp2
      go_roundw
      case rel => first | exact ⟨k + 1, by omega, by go_num, _, rfl⟩ | exact ⟨k + 1, by omega, by go_num, _, drewN_drewN _ _ _⟩
      case measure => simp [intOf]; omega
    · have hltb : decide ((k : Int) < (n : Int)) = false := decide_eq_false (by omega)
      go_wp2
      go_ret
      exact ⟨rfl, d, rfl⟩
end Go.Proofs.YtoapfldmkpobmaaDoor

/- Layer 1: what the law on inverses compares, plain. -/
namespace Go.Proofs.YtoapfldmkpobmaaDoor
theorem spE_parts {l : List UInt8} (h : spE l = 0) : l.length ≤ 8192 ∧ spGood l = true ∧ longs (fAll l) = false ∧ (fAll l).length ≤ 64 := by
  unfold spE at h
  by_cases h1 : 8192 < l.length
  · rw [if_pos h1] at h; cases h
  rw [if_neg h1] at h
  by_cases h2 : spGood l = true
  · rw [if_pos h2] at h
    by_cases h3 : (longs (fAll l) || decide (64 < (fAll l).length)) = true
    · rw [if_pos h3] at h; cases h
    · rw [Bool.not_eq_true, Bool.or_eq_false_iff, decide_eq_false_iff_not] at h3
      exact ⟨by omega, h2, h3.1, by omega⟩
  · rw [if_neg h2] at h; cases h
theorem join_mk {xs : List Item} (h1 : xs.length ≤ 64) (h2 : longs xs = false) (h3 : ∀ x ∈ xs, x.q = true ∨ bareAll x.s = true) (h4 : (jT xs).length ≤ 8192) : joinE xs = 0 := by
  have h5 : xs.any jBad = false := by
    rw [List.any_eq_false]; intro x hx
    unfold jBad
    rcases h3 x hx with h | h <;> simp [h]
  unfold joinE
  rw [if_neg (by omega), h2, if_neg (by simp), h5, if_neg (by simp), if_neg (by omega)]
theorem split_join {l : List UInt8} (h : spE l = 0) : joinE (spX l) = 0 ∧ joinR (spX l) = l := by
  obtain ⟨h1, h2, h3, h4⟩ := spE_parts h
  have hX : spX l = fAll l := by unfold spX; rw [if_pos h]
  rw [hX]
  by_cases hl : l = []
  · subst hl
    exact ⟨by decide +kernel, by decide +kernel⟩
  · have hf : fAll l = fSeq (l.length + 1) l := by unfold fAll; rw [if_neg hl]
    obtain ⟨j1, j2, j3⟩ := join_seq (l.length + 1) l (by omega) (by rw [← hf]; exact h2)
    rw [← hf] at j1 j2
    have hE := join_mk h4 h3 j2 (by rw [j1]; exact h1)
    exact ⟨hE, by unfold joinR; rw [if_pos hE, j1]⟩
theorem joinE_parts {xs : List Item} (h : joinE xs = 0) : xs.length ≤ 64 ∧ longs xs = false ∧ (∀ x ∈ xs, x.q = true ∨ bareAll x.s = true) ∧ (jT xs).length ≤ 8192 := by
  unfold joinE at h
  by_cases h1 : 64 < xs.length
  · rw [if_pos h1] at h; cases h
  rw [if_neg h1] at h
  by_cases h2 : longs xs = true
  · rw [if_pos h2] at h; cases h
  rw [if_neg h2] at h
  by_cases h3 : xs.any jBad = true
  · rw [if_pos h3] at h; cases h
  rw [if_neg h3] at h
  by_cases h4 : 8192 < (jT xs).length
  · rw [if_pos h4] at h; cases h
  refine ⟨by omega, by simpa using h2, fun x hx => ?_, by omega⟩
  rw [Bool.not_eq_true, List.any_eq_false] at h3
  have := h3 x hx
  unfold jBad at this
  cases hq : x.q
  · exact .inr (by simpa [hq] using this)
  · exact .inl rfl
theorem join_split {xs : List Item} (h : joinE xs = 0) : spE (joinR xs) = 0 ∧ sameL (spX (joinR xs)) xs = true ∧ (joinR xs).length ≤ 8192 := by
  obtain ⟨h1, h2, h3, h4⟩ := joinE_parts h
  have hR : joinR xs = jT xs := by unfold joinR; rw [if_pos h]
  have hA : fAll (jT xs) = xs.map fun x => ⟨x.s, x.q, true⟩ := by
    by_cases hx : xs = []
    · subst hx; rfl
    · have hs := seq_join xs hx h3
      have hne : jT xs ≠ [] := fun e => by
        have := hs 1 (by rw [e]; simp)
        rw [e] at this
        have e0 : fSeq 1 [] = [⟨[], false, false⟩] := rfl
        rw [e0] at this
        cases xs with
        | nil => exact hx rfl
        | cons x r => simp at this
      unfold fAll
      rw [if_neg hne]
      exact hs _ (by omega)
  have hE : spE (joinR xs) = 0 := by
    rw [hR]
    have g : spGood (jT xs) = true := by unfold spGood; rw [hA]; simp
    have lg : longs (xs.map fun x => (⟨x.s, x.q, true⟩ : Item)) = false := by unfold longs at h2 ⊢; rw [List.any_map]; exact h2
    unfold spE
    rw [if_neg (by omega), if_pos g, hA, lg, List.length_map, decide_eq_false (by omega)]
    rfl
  refine ⟨hE, ?_, by rw [hR]; exact h4⟩
  unfold spX
  rw [if_pos hE, hR, hA]
  unfold sameL
  rw [List.map_map]
  exact decide_eq_true rfl
theorem int_self (n : Int) : intV (Lib.itoa n) n n = n ∧ intE (Lib.itoa n) n n = 0 := by
  obtain ⟨h1, h2⟩ := int_itoa n
  have ho : outR (Lib.itoa n) n n = false := by unfold outR; rw [h2]; simp
  unfold intV intE
  rw [h1, ho, h2]
  exact ⟨rfl, rfl⟩
theorem int_back {l : List UInt8} {lo hi : Int} (h : intE l lo hi = 0) : Lib.itoa (intV l lo hi) = l ∧ lo ≤ intV l lo hi ∧ intV l lo hi ≤ hi := by
  unfold intE at h
  by_cases h1 : intForm l = true
  · rw [if_pos h1] at h
    by_cases h2 : outR l lo hi = true
    · rw [if_pos h2] at h; cases h
    · have h2' : outR l lo hi = false := by simpa using h2
      have e : intV l lo hi = intVal l := by unfold intV; rw [h1, h2']; rfl
      rw [e]
      unfold outR at h2'
      simp at h2'
      exact ⟨itoa_int h1, by omega, by omega⟩
  · rw [if_neg h1] at h; cases h
end Go.Proofs.YtoapfldmkpobmaaDoor

/- A list of numbers, and a number, that came in, opened. -/
namespace Go.Proofs.YtoapfldmkpobmaaDoor
open Go.ChangeShapes Go.WideShapes Go.ChangeAt Go.ChangeMaps Go.RowKit
theorem addr_none {W : World} {a : Addr} {v : Value} (h : W.cell? (a.add 0) = some v) : ∃ b o, a = ⟨b, o, none⟩ := by
  obtain ⟨b, o, sp⟩ := a
  cases sp with
  | none => exact ⟨b, o, rfl⟩
  | some z =>
    simp only [Addr.add, if_true] at h
    unfold World.cell? at h
    simp at h
    split at h <;> cases h
theorem add_none (b o i : Nat) : (⟨b, o, none⟩ : Addr).add i = ⟨b, o + i, none⟩ := by cases i <;> simp [Addr.add]
set_option maxRecDepth 100000 in
theorem cells_ints {H : Type} {enc : TypeId × Value → H} {W : World} {m : Nat} {d : DataW H} {ps : List MemPlace} {c0 : Value}
    (h : DataW.trod enc Tryd.prog W 0 (fun _ => true) true m 23 [c0] = some (d, ps)) : ∃ xs, ISl W c0 xs := by
  rcases open_ints Tryd.underlying23 Tryd.underlying3 (by kernel_rfl) h with ⟨hcs, _⟩ | ⟨x, l, c, zs, hcs, _, hl, _, hz, _, hcell, hwf⟩
  · simp at hcs
    subst hcs
    exact ⟨[], none, 0, rfl, fun i z h => by simp at h⟩
  · simp at hcs
    subst hcs
    simp only [if_true] at hz
    have hlen : (zs.take l).length = l := by simp; omega
    refine ⟨zs.take l, some x, c, by rw [hlen], fun i y hy => ?_⟩
    have hi : i < l := by have := (List.getElem?_eq_some_iff.1 hy).1; omega
    have h0 := hcell 0 (by omega)
    obtain ⟨b, o, rfl⟩ := addr_none h0
    have hc := hcell i (by omega)
    rw [add_none] at hc
    rw [List.getElem?_take, if_pos hi] at hy
    refine ⟨b, o, rfl, ?_⟩
    rw [hc, List.getD_eq_getElem?_getD, hy, Option.getD_some]
theorem list2 {α : Type} (l : List α) (h : (⟨l⟩ : Array α).size = 2) : ∃ a b, l = [a, b] := by
  match l, h with
  | [a, b], _ => exact ⟨a, b, rfl⟩
set_option maxRecDepth 100000 in
theorem open_numbers {H : Type} {enc : TypeId × Value → H} {W : World} {r : Reach} {b0 fuel : Nat} {v : Value} {d : DataW H} {ps : List MemPlace} (hval : Value.okWide Tryd.prog W r b0 25 v)
    (h : DataW.trod enc Tryd.prog W 0 (fun _ => true) true fuel 25 v.cells.toList = some (d, ps)) : ∃ u ns n, v = .agg #[u, .int .i64 n] ∧ ISl W u ns ∧ -9223372036854775808 ≤ n ∧ n ≤ 9223372036854775807 := by
  obtain ⟨cs, rfl, hsz, _⟩ : ∃ cs, v = .agg cs ∧ cs.size = Tryd.prog.cellsOf 25 ∧ Row.okWide Tryd.prog W r b0 25 cs := by
    simpa [Value.okWide, Tryd.underlying25] using hval
  rw [show Tryd.prog.cellsOf 25 = 2 by kernel_rfl] at hsz
  obtain ⟨l⟩ := cs
  obtain ⟨c0, c1, rfl⟩ := list2 l hsz
  have cl : Tryd.prog.cellsOf 23 = 1 := by kernel_rfl
  have ci : Tryd.prog.cellsOf 2 = 1 := by kernel_rfl
  have h' : DataW.trod enc Tryd.prog W 0 (fun _ => true) true fuel 25 [c0, c1] = some (d, ps) := h
  obtain ⟨ys, m, _, _, _, hyl, hf⟩ := DataW.trod_struct Tryd.underlying25 h'
  match ys, hyl, hf with
  | [y0, y1], _, hf =>
    have hy0 : DataW.trod enc Tryd.prog W 0 (fun _ => true) true m 23 (([c0, c1].drop 0).take (Tryd.prog.cellsOf 23)) = some y0 := hf 0 _ rfl
    have hy1 : DataW.trod enc Tryd.prog W 0 (fun _ => true) true m 2 (([c0, c1].drop 1).take (Tryd.prog.cellsOf 2)) = some y1 := hf 1 _ rfl
    rw [cl] at hy0
    rw [ci] at hy1
    obtain ⟨n1, e1, _, w1⟩ := DataW.trod_int Tryd.underlying2 hy1
    simp at e1
    subst e1
    obtain ⟨ns, hns⟩ := cells_ints (c0 := c0) (d := y0.1) (ps := y0.2) hy0
    have b1 := wf_i64 w1
    exact ⟨c0, ns, n1, rfl, hns, b1.1, b1.2⟩
end Go.Proofs.YtoapfldmkpobmaaDoor
