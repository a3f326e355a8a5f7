/- Layer 4: the law on strings, walked. -/
import Derived.Test.YtnpfdnpklopnkaaFP
namespace Go.Proofs.Ytnpfdnpklopnkaa
open Go.RowKit
set_option maxHeartbeats 1600000 in
set_option maxRecDepth 100000 in
theorem fstrings_any (a b : ByteArray) (w : World) : Calls Try.prog 5 #[.string a, .string b] w fun e w' => e = .returned (.bool true) ∧ Below w.heap.size w w' := by
  have SH := Lib.hid shown_any
  have hb := Below.refl w.heap.size w
  by_cases h1 : 600 < a.size
  · have hb1 : decide ((600 : Int) < (a.size : Int)) = true := decide_eq_true (by omega)
    clear h1
    go_enter Try.func5, Try.ntmps5
    go_wp2_with (first
      | (go_at_call 17; (with_reducible refine (SH.out _).mono ?_); rintro e w9 ⟨rfl, hb2⟩; replace hb := hb.trans (hb2.mono hb.size); clear hb2)
      )
    go_ret
    exact ⟨rfl, hb⟩
  have hb1 : decide ((600 : Int) < (a.size : Int)) = false := decide_eq_false (by omega)
  by_cases h2 : 600 < b.size
  · have hb2 : decide ((600 : Int) < (b.size : Int)) = true := decide_eq_true (by omega)
    clear h1 h2
    go_enter Try.func5, Try.ntmps5
    go_wp2_with (first
      | (go_at_call 17; (with_reducible refine (SH.out _).mono ?_); rintro e w9 ⟨rfl, hb2⟩; replace hb := hb.trans (hb2.mono hb.size); clear hb2)
      )
    go_ret
    exact ⟨rfl, hb⟩
  have hb2 : decide ((600 : Int) < (b.size : Int)) = false := decide_eq_false (by omega)
  have SE := Lib.hid (fun w => sets_any a w (by omega))
  have RS := Lib.hid (fun w => rsets_any a w)
  have AL := Lib.hid (fun w => alike_any a b w (by unfold maxLen; omega) (by unfold maxLen; omega))
  have RA := Lib.hid (fun w => ralike_any a b w (by omega))
  have KE := Lib.hid (fun w => key_any a w (by omega))
  have RK := Lib.hid (fun w => rkey_any a w (by omega))
  have CO := Lib.hid (fun w => compare_any a b w (by unfold maxLen; omega) (by unfold maxLen; omega))
  have RC := Lib.hid (fun w => rcompare_any a b w (by omega) (by omega))
  have hlen : (setsV a).length ≤ 1000000 := by
    unfold setsV; split
    · simp
    · unfold setsL; simp; omega
  have SS := Lib.hid (fun v u w hv hu => sameSets_any v u (setsV a) w hv hu hlen)
  generalize alikeL a.data.toList b.data.toList = al at *
  generalize cmpK a.data.toList b.data.toList = cm at *
  generalize keyS a = ks at *
  clear h1 h2 hlen
  go_enter Try.func5, Try.ntmps5
  go_wp2_with (first
    | (go_at_call 24; (with_reducible refine (SE.out _).mono ?_); rintro e w2 ⟨v, rfl, hv, hb2⟩; replace hb := hb.trans (hb2.mono hb.size); clear hb2)
    | (go_at_call 25; (with_reducible refine (RS.out _).mono ?_); rintro e w3 ⟨u, rfl, hu, hb2⟩; replace hb := hb.trans (hb2.mono hb.size); (try replace hv := hv.below hb2); clear hb2)
    | (go_at_call 26; (with_reducible refine (AL.out _).mono ?_); rintro e w4 ⟨rfl, hb2⟩; replace hb := hb.trans (hb2.mono hb.size); (try replace hv := hv.below hb2); (try replace hu := hu.below hb2); clear hb2)
    | (go_at_call 27; (with_reducible refine (RA.out _).mono ?_); rintro e w5 ⟨rfl, hb2⟩; replace hb := hb.trans (hb2.mono hb.size); (try replace hv := hv.below hb2); (try replace hu := hu.below hb2); clear hb2)
    | (go_at_call 28; (with_reducible refine (KE.out _).mono ?_); rintro e w6 ⟨rfl, hb2⟩; replace hb := hb.trans (hb2.mono hb.size); (try replace hv := hv.below hb2); (try replace hu := hu.below hb2); clear hb2)
    | (go_at_call 29; (with_reducible refine (RK.out _).mono ?_); rintro e w7 ⟨rfl, hb2⟩; replace hb := hb.trans (hb2.mono hb.size); (try replace hv := hv.below hb2); (try replace hu := hu.below hb2); clear hb2)
    | (go_at_call 30; (with_reducible refine (CO.out _).mono ?_); rintro e w8 ⟨rfl, hb2⟩; replace hb := hb.trans (hb2.mono hb.size); (try replace hv := hv.below hb2); (try replace hu := hu.below hb2); clear hb2)
    | (go_at_call 31; (with_reducible refine (RC.out _).mono ?_); rintro e w10 ⟨rfl, hb2⟩; replace hb := hb.trans (hb2.mono hb.size); (try replace hv := hv.below hb2); (try replace hu := hu.below hb2); clear hb2)
    | (go_at_call 32; (with_reducible refine (SS.out _ _ _ hv hu).mono ?_); rintro e w11 ⟨rfl, hb2⟩; replace hb := hb.trans (hb2.mono hb.size); clear hb2)
    | (go_at_call 17; (with_reducible refine (SH.out _).mono ?_); rintro e w9 ⟨rfl, hb2⟩; replace hb := hb.trans (hb2.mono hb.size); clear hb2)
    )
  go_ret
  exact ⟨rfl, hb⟩
end Go.Proofs.Ytnpfdnpklopnkaa
