/- TermPut is true for every term, path and part, and changes them in nothing. No condition. -/
import Derived.Test.YtjpahjfjpkbcnaaGreatH03
import Derived.Test.YtjpahjfjpkbcnaaGreatRows
import Derived.Test.YtjpahjfjpkbcnaaGreatH01

/- TermPut: its walk. -/
namespace Go.Proofs.YtjpahjfjpkbcnaaGreat
open Go.Proofs Go.RowKit

set_option maxHeartbeats 16000000 in
set_option maxRecDepth 100000 in
theorem put7_any (t : Tm) (path : List Int) (q : Tm) (v pv qv : Value) (w : World) (ht : TmAt w.heap.size w t v) (hpv : SlV w.heap.size pv path.length fun b o => IntsAt w path b o) (hq : TmAt w.heap.size w q qv) :
    Calls Tryz.prog 7 #[v, pv, qv] w fun e w' => e = .returned (.bool true) ∧ Below w.heap.size w w' := by
  obtain ⟨a, cap, a', cap', rfl, -⟩ := ht.parts
  obtain ⟨b, bcap, b', bcap', rfl, -⟩ := hq.parts
  obtain ⟨pa, pcap, hpe, hpc, hplc, -⟩ := hpv.split
  obtain ⟨W, hW, hb, hs, hx3, hx5⟩ := two_boxes w #[.int .i64 t.op, .int .i64 t.n, .string t.text, .slice a t.kids.length cap, .slice a' t.pats.length cap'] #[.int .i64 q.op, .int .i64 q.n, .string q.text, .slice b q.kids.length bcap, .slice b' q.pats.length bcap'] 32
  have HT := Lib.hid ht; have HQ := Lib.hid hq; have HP := Lib.hid hpv
  replace HT := Lib.hid (TmAt.keep hb hb.size _ _ HT.out)
  replace HQ := Lib.hid (TmAt.keep hb hb.size _ _ HQ.out)
  replace HP := Lib.hid (HP.out.mono hb.size fun b o hlt hr => IntsAt.keep hb _ b o hlt hr)
  have X3 := Lib.hid hx3; have X5 := Lib.hid hx5; have HV := Lib.hid hb
  subst hpe
  unfold maxLen at hpc
  clear ht hq hpv hb hx3 hx5 hs
  go_enter Tryz.func7, Tryz.ntmps7
  go_upto_region 1 with fail
  rw [← hW]
  clear hW
  obtain ⟨c00, c01, c02, c03, c04⟩ := cells5 X3.out
  go_wp2_with fail
  refine (SmallTerm_any t _ W HT.out).mono ?_
  rintro e w1 ⟨rfl, hb⟩
  replace HV := Lib.hid (HV.out.trans (hb.mono HV.out.size))
  replace X3 := Lib.hid (bget' hb X3.out)
  replace X5 := Lib.hid (bget' hb X5.out)
  replace HT := Lib.hid (TmAt.keep hb hb.size _ _ HT.out)
  replace HQ := Lib.hid (TmAt.keep hb hb.size _ _ HQ.out)
  replace HP := Lib.hid (HP.out.mono hb.size fun b o hlt hr => IntsAt.keep hb _ b o hlt hr)
  clear hb
  clear c00 c01 c02 c03 c04
  cases hs1 : SmallTermB t with
  | false =>
    go_wp2_with fail
    refine (known_any _).mono ?_
    rintro e wk ⟨rfl, hb⟩
    replace HV := Lib.hid (HV.out.trans (hb.mono HV.out.size))
    clear hb
    go_wp2
    go_ret
    exact ⟨rfl, HV.out⟩
  | true =>
  obtain ⟨c00, c01, c02, c03, c04⟩ := cells5 X5.out
  go_wp2_with fail
  refine (SmallTerm_any q _ w1 HQ.out).mono ?_
  rintro e w2 ⟨rfl, hb⟩
  replace HV := Lib.hid (HV.out.trans (hb.mono HV.out.size))
  replace X3 := Lib.hid (bget' hb X3.out)
  replace X5 := Lib.hid (bget' hb X5.out)
  replace HT := Lib.hid (TmAt.keep hb hb.size _ _ HT.out)
  replace HQ := Lib.hid (TmAt.keep hb hb.size _ _ HQ.out)
  replace HP := Lib.hid (HP.out.mono hb.size fun b o hlt hr => IntsAt.keep hb _ b o hlt hr)
  clear hb
  clear c00 c01 c02 c03 c04
  cases hs2 : SmallTermB q with
  | false =>
    go_wp2_with fail
    refine (known_any _).mono ?_
    rintro e wk ⟨rfl, hb⟩
    replace HV := Lib.hid (HV.out.trans (hb.mono HV.out.size))
    clear hb
    go_wp2
    go_ret
    exact ⟨rfl, HV.out⟩
  | true =>
  have HF := SmallTerm_fit hs1; have HG := SmallTerm_fit hs2; clear hs1 hs2
  obtain ⟨c00, c01, c02, c03, c04⟩ := cells5 X3.out
  go_wp2_with fail
  refine (C30 t w2 HT.out HF.ok).mono ?_
  rintro e w3 ⟨rfl, hb⟩
  replace HV := Lib.hid (HV.out.trans (hb.mono HV.out.size))
  replace X3 := Lib.hid (bget' hb X3.out)
  replace X5 := Lib.hid (bget' hb X5.out)
  replace HT := Lib.hid (TmAt.keep hb hb.size _ _ HT.out)
  replace HQ := Lib.hid (TmAt.keep hb hb.size _ _ HQ.out)
  replace HP := Lib.hid (HP.out.mono hb.size fun b o hlt hr => IntsAt.keep hb _ b o hlt hr)
  clear hb
  clear c00 c01 c02 c03 c04
  cases htb : termB t with
  | false =>
    go_wp2_with fail
    refine (known_any _).mono ?_
    rintro e wk ⟨rfl, hb⟩
    replace HV := Lib.hid (HV.out.trans (hb.mono HV.out.size))
    clear hb
    go_wp2
    go_ret
    exact ⟨rfl, HV.out⟩
  | true =>
  have HTB := Lib.hid htb; clear htb
  obtain ⟨c00, c01, c02, c03, c04⟩ := cells5 X5.out
  go_wp2_with fail
  refine (C30 q w3 HQ.out HG.ok).mono ?_
  rintro e w4 ⟨rfl, hb⟩
  replace HV := Lib.hid (HV.out.trans (hb.mono HV.out.size))
  replace X3 := Lib.hid (bget' hb X3.out)
  replace X5 := Lib.hid (bget' hb X5.out)
  replace HT := Lib.hid (TmAt.keep hb hb.size _ _ HT.out)
  replace HQ := Lib.hid (TmAt.keep hb hb.size _ _ HQ.out)
  replace HP := Lib.hid (HP.out.mono hb.size fun b o hlt hr => IntsAt.keep hb _ b o hlt hr)
  clear hb
  clear c00 c01 c02 c03 c04
  cases hqb : termB q with
  | false =>
    go_wp2_with fail
    refine (known_any _).mono ?_
    rintro e wk ⟨rfl, hb⟩
    replace HV := Lib.hid (HV.out.trans (hb.mono HV.out.size))
    clear hb
    go_wp2
    go_ret
    exact ⟨rfl, HV.out⟩
  | true =>
  have HQB := Lib.hid hqb; clear hqb
  by_cases h20 : path.length ≤ 20
  case neg =>
    have h20' : (20 : Int) < (path.length : Int) := by omega
    go_wp2_with fail
    refine (known_any _).mono ?_
    rintro e wk ⟨rfl, hb⟩
    replace HV := Lib.hid (HV.out.trans (hb.mono HV.out.size))
    clear hb
    go_wp2
    go_ret
    exact ⟨rfl, HV.out⟩
  have h20' : ¬ (20 : Int) < (path.length : Int) := by omega
  have hl : path.length ≤ 1000000 := by omega
  cases hat : atM t path with
  | none =>
    have HAT := Lib.hid hat; clear hat
    obtain ⟨c00, c01, c02, c03, c04⟩ := cells5 X3.out
    go_wp2_with fail
    refine (At_any t _ (.slice pa path.length pcap) path w4 HT.out HP.out hl HF).mono ?_
    rintro e w5 ⟨he, hb⟩
    replace HV := Lib.hid (HV.out.trans (hb.mono HV.out.size))
    replace X3 := Lib.hid (bget' hb X3.out)
    replace X5 := Lib.hid (bget' hb X5.out)
    replace HT := Lib.hid (TmAt.keep hb hb.size _ _ HT.out)
    replace HQ := Lib.hid (TmAt.keep hb hb.size _ _ HQ.out)
    replace HP := Lib.hid (HP.out.mono hb.size fun b o hlt hr => IntsAt.keep hb _ b o hlt hr)
    obtain rfl := AtEnd.no he (.inr HAT.out)
    unfold zeroV
    clear hb
    clear c00 c01 c02 c03 c04
    go_upto_region 4 with fail
    have hb := (Below.refl _ w5).alloc (Nat.le_refl _) (.cells #[.int .i64 0, .int .i64 0, .string ⟨#[]⟩, .slice none 0 0, .slice none 0 0] 32)
    have X7n := Lib.hid (heap_alloc_new w5 (.cells #[.int .i64 0, .int .i64 0, .string ⟨#[]⟩, .slice none 0 0, .slice none 0 0] 32))
    replace HV := Lib.hid (HV.out.trans (hb.mono HV.out.size))
    replace X3 := Lib.hid (bget' hb X3.out)
    replace X5 := Lib.hid (bget' hb X5.out)
    replace HT := Lib.hid (TmAt.keep hb hb.size _ _ HT.out)
    replace HQ := Lib.hid (TmAt.keep hb hb.size _ _ HQ.out)
    replace HP := Lib.hid (HP.out.mono hb.size fun b o hlt hr => IntsAt.keep hb _ b o hlt hr)
    clear hb
    generalize (w5.alloc (.cells #[.int .i64 0, .int .i64 0, .string ⟨#[]⟩, .slice none 0 0, .slice none 0 0] 32)) = w6 at *
    have X7 := X7n
    clear X7n
    obtain ⟨c00, c01, c02, c03, c04⟩ := cells5 X3.out
    obtain ⟨c10, c11, c12, c13, c14⟩ := cells5 X5.out
    go_wp2_with fail
    refine (Put_any t q _ _ (.slice pa path.length pcap) path w6 HT.out HQ.out HP.out hl HF HG).mono ?_
    rintro e w7 ⟨he, hb⟩
    replace HV := Lib.hid (HV.out.trans (hb.mono HV.out.size))
    replace X3 := Lib.hid (bget' hb X3.out)
    replace X5 := Lib.hid (bget' hb X5.out)
    replace X7 := Lib.hid (bget' hb X7.out)
    replace HT := Lib.hid (TmAt.keep hb hb.size _ _ HT.out)
    replace HQ := Lib.hid (TmAt.keep hb hb.size _ _ HQ.out)
    replace HP := Lib.hid (HP.out.mono hb.size fun b o hlt hr => IntsAt.keep hb _ b o hlt hr)
    obtain rfl := PutEnd.no he (by rw [HAT.out]; simp)
    unfold zeroV
    clear hb
    clear c00 c01 c02 c03 c04 c10 c11 c12 c13 c14
    go_upto_region 5 with fail
    have hb := (Below.refl _ w7).alloc (Nat.le_refl _) (.cells #[.int .i64 0, .int .i64 0, .string ⟨#[]⟩, .slice none 0 0, .slice none 0 0] 32)
    have X9n := Lib.hid (heap_alloc_new w7 (.cells #[.int .i64 0, .int .i64 0, .string ⟨#[]⟩, .slice none 0 0, .slice none 0 0] 32))
    replace HV := Lib.hid (HV.out.trans (hb.mono HV.out.size))
    replace X3 := Lib.hid (bget' hb X3.out)
    replace X5 := Lib.hid (bget' hb X5.out)
    replace X7 := Lib.hid (bget' hb X7.out)
    replace HT := Lib.hid (TmAt.keep hb hb.size _ _ HT.out)
    replace HQ := Lib.hid (TmAt.keep hb hb.size _ _ HQ.out)
    replace HP := Lib.hid (HP.out.mono hb.size fun b o hlt hr => IntsAt.keep hb _ b o hlt hr)
    clear hb
    generalize (w7.alloc (.cells #[.int .i64 0, .int .i64 0, .string ⟨#[]⟩, .slice none 0 0, .slice none 0 0] 32)) = w8 at *
    have X9 := X9n
    clear X9n
    go_wp2_with fail
    refine (known_any _).mono ?_
    rintro e wk ⟨rfl, hb⟩
    replace HV := Lib.hid (HV.out.trans (hb.mono HV.out.size))
    clear hb
    go_wp2
    go_ret
    exact ⟨rfl, HV.out⟩
  | some r =>
  have HAT := Lib.hid hat; clear hat
  have hpf := put_fit q HG.ok HG.len path t HF.ok HF.len
  have HPF : Fit (putM t path q) := ⟨by have := HF.h; have := termB_height HTB.out; have := termB_height HQB.out; omega, hpf.1, hpf.2.1⟩
  have HRB := Lib.hid (termB_at path t r HTB.out HAT.out)
  have HRF : Fit r := Fit.at path t r HF HAT.out
  clear hpf
  cases hpb : termB (putM t path q) with
  | false =>
    have HPB := Lib.hid hpb; clear hpb
    obtain ⟨c00, c01, c02, c03, c04⟩ := cells5 X3.out
    go_wp2_with fail
    refine (At_any t _ (.slice pa path.length pcap) path w4 HT.out HP.out hl HF).mono ?_
    rintro e w5 ⟨he, hb⟩
    replace HV := Lib.hid (HV.out.trans (hb.mono HV.out.size))
    replace X3 := Lib.hid (bget' hb X3.out)
    replace X5 := Lib.hid (bget' hb X5.out)
    replace HT := Lib.hid (TmAt.keep hb hb.size _ _ HT.out)
    replace HQ := Lib.hid (TmAt.keep hb hb.size _ _ HQ.out)
    replace HP := Lib.hid (HP.out.mono hb.size fun b o hlt hr => IntsAt.keep hb _ b o hlt hr)
    obtain ⟨va, rfl, hva⟩ := AtEnd.yes he HTB.out HAT.out
    have HA := Lib.hid hva.at
    clear hva
    obtain ⟨aa, ac, aa', ac', rfl, -⟩ := HA.out.parts
    clear hb
    clear c00 c01 c02 c03 c04
    go_upto_region 4 with fail
    have hb := (Below.refl _ w5).alloc (Nat.le_refl _) (.cells #[.int .i64 r.op, .int .i64 r.n, .string r.text, .slice aa r.kids.length ac, .slice aa' r.pats.length ac'] 32)
    have X7n := Lib.hid (heap_alloc_new w5 (.cells #[.int .i64 r.op, .int .i64 r.n, .string r.text, .slice aa r.kids.length ac, .slice aa' r.pats.length ac'] 32))
    replace HV := Lib.hid (HV.out.trans (hb.mono HV.out.size))
    replace X3 := Lib.hid (bget' hb X3.out)
    replace X5 := Lib.hid (bget' hb X5.out)
    replace HT := Lib.hid (TmAt.keep hb hb.size _ _ HT.out)
    replace HQ := Lib.hid (TmAt.keep hb hb.size _ _ HQ.out)
    replace HA := Lib.hid (TmAt.keep hb hb.size _ _ HA.out)
    replace HP := Lib.hid (HP.out.mono hb.size fun b o hlt hr => IntsAt.keep hb _ b o hlt hr)
    clear hb
    generalize (w5.alloc (.cells #[.int .i64 r.op, .int .i64 r.n, .string r.text, .slice aa r.kids.length ac, .slice aa' r.pats.length ac'] 32)) = w6 at *
    have X7 := X7n
    clear X7n
    obtain ⟨c00, c01, c02, c03, c04⟩ := cells5 X3.out
    obtain ⟨c10, c11, c12, c13, c14⟩ := cells5 X5.out
    go_wp2_with fail
    refine (Put_any t q _ _ (.slice pa path.length pcap) path w6 HT.out HQ.out HP.out hl HF HG).mono ?_
    rintro e w7 ⟨he, hb⟩
    replace HV := Lib.hid (HV.out.trans (hb.mono HV.out.size))
    replace X3 := Lib.hid (bget' hb X3.out)
    replace X5 := Lib.hid (bget' hb X5.out)
    replace X7 := Lib.hid (bget' hb X7.out)
    replace HT := Lib.hid (TmAt.keep hb hb.size _ _ HT.out)
    replace HQ := Lib.hid (TmAt.keep hb hb.size _ _ HQ.out)
    replace HA := Lib.hid (TmAt.keep hb hb.size _ _ HA.out)
    replace HP := Lib.hid (HP.out.mono hb.size fun b o hlt hr => IntsAt.keep hb _ b o hlt hr)
    obtain rfl := PutEnd.long he (by rw [HTB.out, HAT.out, HQB.out]; rfl) HPB.out
    unfold zeroV
    clear hb
    clear c00 c01 c02 c03 c04 c10 c11 c12 c13 c14
    go_upto_region 5 with fail
    have hb := (Below.refl _ w7).alloc (Nat.le_refl _) (.cells #[.int .i64 0, .int .i64 0, .string ⟨#[]⟩, .slice none 0 0, .slice none 0 0] 32)
    have X9n := Lib.hid (heap_alloc_new w7 (.cells #[.int .i64 0, .int .i64 0, .string ⟨#[]⟩, .slice none 0 0, .slice none 0 0] 32))
    replace HV := Lib.hid (HV.out.trans (hb.mono HV.out.size))
    replace X3 := Lib.hid (bget' hb X3.out)
    replace X5 := Lib.hid (bget' hb X5.out)
    replace X7 := Lib.hid (bget' hb X7.out)
    replace HT := Lib.hid (TmAt.keep hb hb.size _ _ HT.out)
    replace HQ := Lib.hid (TmAt.keep hb hb.size _ _ HQ.out)
    replace HA := Lib.hid (TmAt.keep hb hb.size _ _ HA.out)
    replace HP := Lib.hid (HP.out.mono hb.size fun b o hlt hr => IntsAt.keep hb _ b o hlt hr)
    clear hb
    generalize (w7.alloc (.cells #[.int .i64 0, .int .i64 0, .string ⟨#[]⟩, .slice none 0 0, .slice none 0 0] 32)) = w8 at *
    have X9 := X9n
    clear X9n
    go_wp2_with fail
    refine (known_any _).mono ?_
    rintro e wk ⟨rfl, hb⟩
    replace HV := Lib.hid (HV.out.trans (hb.mono HV.out.size))
    clear hb
    go_wp2
    go_ret
    exact ⟨rfl, HV.out⟩
  | true =>
    have HPB := Lib.hid hpb; clear hpb
    obtain ⟨c00, c01, c02, c03, c04⟩ := cells5 X3.out
    go_wp2_with fail
    refine (At_any t _ (.slice pa path.length pcap) path w4 HT.out HP.out hl HF).mono ?_
    rintro e w5 ⟨he, hb⟩
    replace HV := Lib.hid (HV.out.trans (hb.mono HV.out.size))
    replace X3 := Lib.hid (bget' hb X3.out)
    replace X5 := Lib.hid (bget' hb X5.out)
    replace HT := Lib.hid (TmAt.keep hb hb.size _ _ HT.out)
    replace HQ := Lib.hid (TmAt.keep hb hb.size _ _ HQ.out)
    replace HP := Lib.hid (HP.out.mono hb.size fun b o hlt hr => IntsAt.keep hb _ b o hlt hr)
    obtain ⟨va, rfl, hva⟩ := AtEnd.yes he HTB.out HAT.out
    have HA := Lib.hid hva.at
    clear hva
    obtain ⟨aa, ac, aa', ac', rfl, -⟩ := HA.out.parts
    clear hb
    clear c00 c01 c02 c03 c04
    go_upto_region 4 with fail
    have hb := (Below.refl _ w5).alloc (Nat.le_refl _) (.cells #[.int .i64 r.op, .int .i64 r.n, .string r.text, .slice aa r.kids.length ac, .slice aa' r.pats.length ac'] 32)
    have X7n := Lib.hid (heap_alloc_new w5 (.cells #[.int .i64 r.op, .int .i64 r.n, .string r.text, .slice aa r.kids.length ac, .slice aa' r.pats.length ac'] 32))
    replace HV := Lib.hid (HV.out.trans (hb.mono HV.out.size))
    replace X3 := Lib.hid (bget' hb X3.out)
    replace X5 := Lib.hid (bget' hb X5.out)
    replace HT := Lib.hid (TmAt.keep hb hb.size _ _ HT.out)
    replace HQ := Lib.hid (TmAt.keep hb hb.size _ _ HQ.out)
    replace HA := Lib.hid (TmAt.keep hb hb.size _ _ HA.out)
    replace HP := Lib.hid (HP.out.mono hb.size fun b o hlt hr => IntsAt.keep hb _ b o hlt hr)
    clear hb
    generalize (w5.alloc (.cells #[.int .i64 r.op, .int .i64 r.n, .string r.text, .slice aa r.kids.length ac, .slice aa' r.pats.length ac'] 32)) = w6 at *
    have X7 := X7n
    clear X7n
    obtain ⟨c00, c01, c02, c03, c04⟩ := cells5 X3.out
    obtain ⟨c10, c11, c12, c13, c14⟩ := cells5 X5.out
    go_wp2_with fail
    refine (Put_any t q _ _ (.slice pa path.length pcap) path w6 HT.out HQ.out HP.out hl HF HG).mono ?_
    rintro e w7 ⟨he, hb⟩
    replace HV := Lib.hid (HV.out.trans (hb.mono HV.out.size))
    replace X3 := Lib.hid (bget' hb X3.out)
    replace X5 := Lib.hid (bget' hb X5.out)
    replace X7 := Lib.hid (bget' hb X7.out)
    replace HT := Lib.hid (TmAt.keep hb hb.size _ _ HT.out)
    replace HQ := Lib.hid (TmAt.keep hb hb.size _ _ HQ.out)
    replace HA := Lib.hid (TmAt.keep hb hb.size _ _ HA.out)
    replace HP := Lib.hid (HP.out.mono hb.size fun b o hlt hr => IntsAt.keep hb _ b o hlt hr)
    obtain ⟨vp, rfl, hvp⟩ := PutEnd.yes he (by rw [HTB.out, HAT.out, HQB.out]; rfl) HPB.out
    have HU := Lib.hid hvp
    clear hvp
    obtain ⟨ua, uc, ua', uc', rfl, -⟩ := HU.out.parts
    clear hb
    clear c00 c01 c02 c03 c04 c10 c11 c12 c13 c14
    go_upto_region 5 with fail
    have hb := (Below.refl _ w7).alloc (Nat.le_refl _) (.cells #[.int .i64 (putM t path q).op, .int .i64 (putM t path q).n, .string (putM t path q).text, .slice ua (putM t path q).kids.length uc, .slice ua' (putM t path q).pats.length uc'] 32)
    have X9n := Lib.hid (heap_alloc_new w7 (.cells #[.int .i64 (putM t path q).op, .int .i64 (putM t path q).n, .string (putM t path q).text, .slice ua (putM t path q).kids.length uc, .slice ua' (putM t path q).pats.length uc'] 32))
    replace HV := Lib.hid (HV.out.trans (hb.mono HV.out.size))
    replace X3 := Lib.hid (bget' hb X3.out)
    replace X5 := Lib.hid (bget' hb X5.out)
    replace X7 := Lib.hid (bget' hb X7.out)
    replace HT := Lib.hid (TmAt.keep hb hb.size _ _ HT.out)
    replace HQ := Lib.hid (TmAt.keep hb hb.size _ _ HQ.out)
    replace HA := Lib.hid (TmAt.keep hb hb.size _ _ HA.out)
    replace HU := Lib.hid (TmAt.keep hb hb.size _ _ HU.out)
    replace HP := Lib.hid (HP.out.mono hb.size fun b o hlt hr => IntsAt.keep hb _ b o hlt hr)
    clear hb
    generalize (w7.alloc (.cells #[.int .i64 (putM t path q).op, .int .i64 (putM t path q).n, .string (putM t path q).text, .slice ua (putM t path q).kids.length uc, .slice ua' (putM t path q).pats.length uc'] 32)) = w8 at *
    have X9 := X9n
    clear X9n
    obtain ⟨c00, c01, c02, c03, c04⟩ := cells5 X9.out
    go_wp2_with fail
    refine (At_any (putM t path q) _ (.slice pa path.length pcap) path w8 HU.out HP.out hl HPF).mono ?_
    rintro e w9 ⟨he, hb⟩
    replace HV := Lib.hid (HV.out.trans (hb.mono HV.out.size))
    replace X3 := Lib.hid (bget' hb X3.out)
    replace X5 := Lib.hid (bget' hb X5.out)
    replace X7 := Lib.hid (bget' hb X7.out)
    replace X9 := Lib.hid (bget' hb X9.out)
    replace HT := Lib.hid (TmAt.keep hb hb.size _ _ HT.out)
    replace HQ := Lib.hid (TmAt.keep hb hb.size _ _ HQ.out)
    replace HA := Lib.hid (TmAt.keep hb hb.size _ _ HA.out)
    replace HU := Lib.hid (TmAt.keep hb hb.size _ _ HU.out)
    replace HP := Lib.hid (HP.out.mono hb.size fun b o hlt hr => IntsAt.keep hb _ b o hlt hr)
    obtain ⟨vn, rfl, hvn⟩ := AtEnd.yes he HPB.out (at_put q path t r HAT.out)
    have HN := Lib.hid hvn.at
    clear hvn
    obtain ⟨na, nc, na', nc', rfl, -⟩ := HN.out.parts
    clear hb
    clear c00 c01 c02 c03 c04
    go_upto_region 10 with fail
    have hb := (Below.refl _ w9).alloc (Nat.le_refl _) (.cells #[.int .i64 q.op, .int .i64 q.n, .string q.text, .slice na q.kids.length nc, .slice na' q.pats.length nc'] 32)
    have X11n := Lib.hid (heap_alloc_new w9 (.cells #[.int .i64 q.op, .int .i64 q.n, .string q.text, .slice na q.kids.length nc, .slice na' q.pats.length nc'] 32))
    replace HV := Lib.hid (HV.out.trans (hb.mono HV.out.size))
    replace X3 := Lib.hid (bget' hb X3.out)
    replace X5 := Lib.hid (bget' hb X5.out)
    replace X7 := Lib.hid (bget' hb X7.out)
    replace X9 := Lib.hid (bget' hb X9.out)
    replace HT := Lib.hid (TmAt.keep hb hb.size _ _ HT.out)
    replace HQ := Lib.hid (TmAt.keep hb hb.size _ _ HQ.out)
    replace HA := Lib.hid (TmAt.keep hb hb.size _ _ HA.out)
    replace HU := Lib.hid (TmAt.keep hb hb.size _ _ HU.out)
    replace HN := Lib.hid (TmAt.keep hb hb.size _ _ HN.out)
    replace HP := Lib.hid (HP.out.mono hb.size fun b o hlt hr => IntsAt.keep hb _ b o hlt hr)
    clear hb
    generalize (w9.alloc (.cells #[.int .i64 q.op, .int .i64 q.n, .string q.text, .slice na q.kids.length nc, .slice na' q.pats.length nc'] 32)) = w10 at *
    have X11 := X11n
    clear X11n
    have HBK := Lib.hid (put_put q path t r HAT.out)
    obtain ⟨c00, c01, c02, c03, c04⟩ := cells5 X9.out
    obtain ⟨c10, c11, c12, c13, c14⟩ := cells5 X7.out
    go_wp2_with fail
    refine (Put_any (putM t path q) r _ _ (.slice pa path.length pcap) path w10 HU.out HA.out HP.out hl HPF HRF).mono ?_
    rintro e w11 ⟨he, hb⟩
    replace HV := Lib.hid (HV.out.trans (hb.mono HV.out.size))
    replace X3 := Lib.hid (bget' hb X3.out)
    replace X5 := Lib.hid (bget' hb X5.out)
    replace X7 := Lib.hid (bget' hb X7.out)
    replace X9 := Lib.hid (bget' hb X9.out)
    replace X11 := Lib.hid (bget' hb X11.out)
    replace HT := Lib.hid (TmAt.keep hb hb.size _ _ HT.out)
    replace HQ := Lib.hid (TmAt.keep hb hb.size _ _ HQ.out)
    replace HA := Lib.hid (TmAt.keep hb hb.size _ _ HA.out)
    replace HU := Lib.hid (TmAt.keep hb hb.size _ _ HU.out)
    replace HN := Lib.hid (TmAt.keep hb hb.size _ _ HN.out)
    replace HP := Lib.hid (HP.out.mono hb.size fun b o hlt hr => IntsAt.keep hb _ b o hlt hr)
    obtain ⟨vb, rfl, hvb⟩ := PutEnd.yes he (by rw [HPB.out, at_put q path t r HAT.out, HRB.out]; rfl) (by rw [HBK.out]; exact HTB.out)
    rw [HBK.out] at hvb
    have HK := Lib.hid hvb
    clear hvb
    obtain ⟨ka, kc, ka', kc', rfl, -⟩ := HK.out.parts
    clear hb
    clear c00 c01 c02 c03 c04 c10 c11 c12 c13 c14
    go_upto_region 11 with fail
    have hb := (Below.refl _ w11).alloc (Nat.le_refl _) (.cells #[.int .i64 t.op, .int .i64 t.n, .string t.text, .slice ka t.kids.length kc, .slice ka' t.pats.length kc'] 32)
    have X13n := Lib.hid (heap_alloc_new w11 (.cells #[.int .i64 t.op, .int .i64 t.n, .string t.text, .slice ka t.kids.length kc, .slice ka' t.pats.length kc'] 32))
    replace HV := Lib.hid (HV.out.trans (hb.mono HV.out.size))
    replace X3 := Lib.hid (bget' hb X3.out)
    replace X5 := Lib.hid (bget' hb X5.out)
    replace X7 := Lib.hid (bget' hb X7.out)
    replace X9 := Lib.hid (bget' hb X9.out)
    replace X11 := Lib.hid (bget' hb X11.out)
    replace HT := Lib.hid (TmAt.keep hb hb.size _ _ HT.out)
    replace HQ := Lib.hid (TmAt.keep hb hb.size _ _ HQ.out)
    replace HA := Lib.hid (TmAt.keep hb hb.size _ _ HA.out)
    replace HU := Lib.hid (TmAt.keep hb hb.size _ _ HU.out)
    replace HN := Lib.hid (TmAt.keep hb hb.size _ _ HN.out)
    replace HK := Lib.hid (TmAt.keep hb hb.size _ _ HK.out)
    replace HP := Lib.hid (HP.out.mono hb.size fun b o hlt hr => IntsAt.keep hb _ b o hlt hr)
    clear hb
    generalize (w11.alloc (.cells #[.int .i64 t.op, .int .i64 t.n, .string t.text, .slice ka t.kids.length kc, .slice ka' t.pats.length kc'] 32)) = w12 at *
    have X13 := X13n
    clear X13n
    obtain ⟨c00, c01, c02, c03, c04⟩ := cells5 X3.out
    go_wp2_with fail
    refine (C37 HTB.out _ (Nodes_any t _ w12 HT.out HF.h HF.ok)).mono ?_
    rintro e w13 ⟨rfl, hb⟩
    replace HV := Lib.hid (HV.out.trans (hb.mono HV.out.size))
    replace X3 := Lib.hid (bget' hb X3.out)
    replace X5 := Lib.hid (bget' hb X5.out)
    replace X7 := Lib.hid (bget' hb X7.out)
    replace X9 := Lib.hid (bget' hb X9.out)
    replace X11 := Lib.hid (bget' hb X11.out)
    replace X13 := Lib.hid (bget' hb X13.out)
    replace HT := Lib.hid (TmAt.keep hb hb.size _ _ HT.out)
    replace HQ := Lib.hid (TmAt.keep hb hb.size _ _ HQ.out)
    replace HA := Lib.hid (TmAt.keep hb hb.size _ _ HA.out)
    replace HU := Lib.hid (TmAt.keep hb hb.size _ _ HU.out)
    replace HN := Lib.hid (TmAt.keep hb hb.size _ _ HN.out)
    replace HK := Lib.hid (TmAt.keep hb hb.size _ _ HK.out)
    replace HP := Lib.hid (HP.out.mono hb.size fun b o hlt hr => IntsAt.keep hb _ b o hlt hr)
    clear hb
    clear c00 c01 c02 c03 c04
    obtain ⟨c00, c01, c02, c03, c04⟩ := cells5 X9.out
    go_wp2_with fail
    refine (C37 HPB.out _ (Nodes_any (putM t path q) _ w13 HU.out HPF.h HPF.ok)).mono ?_
    rintro e w14 ⟨rfl, hb⟩
    replace HV := Lib.hid (HV.out.trans (hb.mono HV.out.size))
    replace X3 := Lib.hid (bget' hb X3.out)
    replace X5 := Lib.hid (bget' hb X5.out)
    replace X7 := Lib.hid (bget' hb X7.out)
    replace X9 := Lib.hid (bget' hb X9.out)
    replace X11 := Lib.hid (bget' hb X11.out)
    replace X13 := Lib.hid (bget' hb X13.out)
    replace HT := Lib.hid (TmAt.keep hb hb.size _ _ HT.out)
    replace HQ := Lib.hid (TmAt.keep hb hb.size _ _ HQ.out)
    replace HA := Lib.hid (TmAt.keep hb hb.size _ _ HA.out)
    replace HU := Lib.hid (TmAt.keep hb hb.size _ _ HU.out)
    replace HN := Lib.hid (TmAt.keep hb hb.size _ _ HN.out)
    replace HK := Lib.hid (TmAt.keep hb hb.size _ _ HK.out)
    replace HP := Lib.hid (HP.out.mono hb.size fun b o hlt hr => IntsAt.keep hb _ b o hlt hr)
    clear hb
    clear c00 c01 c02 c03 c04
    obtain ⟨c00, c01, c02, c03, c04⟩ := cells5 X7.out
    go_wp2_with fail
    refine (C37 HRB.out _ (Nodes_any r _ w14 HA.out HRF.h HRF.ok)).mono ?_
    rintro e w15 ⟨rfl, hb⟩
    replace HV := Lib.hid (HV.out.trans (hb.mono HV.out.size))
    replace X3 := Lib.hid (bget' hb X3.out)
    replace X5 := Lib.hid (bget' hb X5.out)
    replace X7 := Lib.hid (bget' hb X7.out)
    replace X9 := Lib.hid (bget' hb X9.out)
    replace X11 := Lib.hid (bget' hb X11.out)
    replace X13 := Lib.hid (bget' hb X13.out)
    replace HT := Lib.hid (TmAt.keep hb hb.size _ _ HT.out)
    replace HQ := Lib.hid (TmAt.keep hb hb.size _ _ HQ.out)
    replace HA := Lib.hid (TmAt.keep hb hb.size _ _ HA.out)
    replace HU := Lib.hid (TmAt.keep hb hb.size _ _ HU.out)
    replace HN := Lib.hid (TmAt.keep hb hb.size _ _ HN.out)
    replace HK := Lib.hid (TmAt.keep hb hb.size _ _ HK.out)
    replace HP := Lib.hid (HP.out.mono hb.size fun b o hlt hr => IntsAt.keep hb _ b o hlt hr)
    clear hb
    clear c00 c01 c02 c03 c04
    obtain ⟨c00, c01, c02, c03, c04⟩ := cells5 X5.out
    go_wp2_with fail
    refine (C37 HQB.out _ (Nodes_any q _ w15 HQ.out HG.h HG.ok)).mono ?_
    rintro e w16 ⟨rfl, hb⟩
    replace HV := Lib.hid (HV.out.trans (hb.mono HV.out.size))
    replace X3 := Lib.hid (bget' hb X3.out)
    replace X5 := Lib.hid (bget' hb X5.out)
    replace X7 := Lib.hid (bget' hb X7.out)
    replace X9 := Lib.hid (bget' hb X9.out)
    replace X11 := Lib.hid (bget' hb X11.out)
    replace X13 := Lib.hid (bget' hb X13.out)
    replace HT := Lib.hid (TmAt.keep hb hb.size _ _ HT.out)
    replace HQ := Lib.hid (TmAt.keep hb hb.size _ _ HQ.out)
    replace HA := Lib.hid (TmAt.keep hb hb.size _ _ HA.out)
    replace HU := Lib.hid (TmAt.keep hb hb.size _ _ HU.out)
    replace HN := Lib.hid (TmAt.keep hb hb.size _ _ HN.out)
    replace HK := Lib.hid (TmAt.keep hb hb.size _ _ HK.out)
    replace HP := Lib.hid (HP.out.mono hb.size fun b o hlt hr => IntsAt.keep hb _ b o hlt hr)
    clear hb
    clear c00 c01 c02 c03 c04
    obtain ⟨c00, c01, c02, c03, c04⟩ := cells5 X11.out
    obtain ⟨c10, c11, c12, c13, c14⟩ := cells5 X5.out
    go_wp2_with fail
    refine (Same_any q q _ _ w16 HN.out HQ.out).mono ?_
    rintro e w17 ⟨rfl, hb⟩
    replace HV := Lib.hid (HV.out.trans (hb.mono HV.out.size))
    replace X3 := Lib.hid (bget' hb X3.out)
    replace X5 := Lib.hid (bget' hb X5.out)
    replace X7 := Lib.hid (bget' hb X7.out)
    replace X9 := Lib.hid (bget' hb X9.out)
    replace X11 := Lib.hid (bget' hb X11.out)
    replace X13 := Lib.hid (bget' hb X13.out)
    replace HT := Lib.hid (TmAt.keep hb hb.size _ _ HT.out)
    replace HQ := Lib.hid (TmAt.keep hb hb.size _ _ HQ.out)
    replace HA := Lib.hid (TmAt.keep hb hb.size _ _ HA.out)
    replace HU := Lib.hid (TmAt.keep hb hb.size _ _ HU.out)
    replace HN := Lib.hid (TmAt.keep hb hb.size _ _ HN.out)
    replace HK := Lib.hid (TmAt.keep hb hb.size _ _ HK.out)
    replace HP := Lib.hid (HP.out.mono hb.size fun b o hlt hr => IntsAt.keep hb _ b o hlt hr)
    rw [eqM_refl]
    clear hb
    clear c00 c01 c02 c03 c04 c10 c11 c12 c13 c14
    obtain ⟨c00, c01, c02, c03, c04⟩ := cells5 X13.out
    obtain ⟨c10, c11, c12, c13, c14⟩ := cells5 X3.out
    go_wp2_with fail
    refine (Same_any t t _ _ w17 HK.out HT.out).mono ?_
    rintro e w18 ⟨rfl, hb⟩
    replace HV := Lib.hid (HV.out.trans (hb.mono HV.out.size))
    replace X3 := Lib.hid (bget' hb X3.out)
    replace X5 := Lib.hid (bget' hb X5.out)
    replace X7 := Lib.hid (bget' hb X7.out)
    replace X9 := Lib.hid (bget' hb X9.out)
    replace X11 := Lib.hid (bget' hb X11.out)
    replace X13 := Lib.hid (bget' hb X13.out)
    replace HT := Lib.hid (TmAt.keep hb hb.size _ _ HT.out)
    replace HQ := Lib.hid (TmAt.keep hb hb.size _ _ HQ.out)
    replace HA := Lib.hid (TmAt.keep hb hb.size _ _ HA.out)
    replace HU := Lib.hid (TmAt.keep hb hb.size _ _ HU.out)
    replace HN := Lib.hid (TmAt.keep hb hb.size _ _ HN.out)
    replace HK := Lib.hid (TmAt.keep hb hb.size _ _ HK.out)
    replace HP := Lib.hid (HP.out.mono hb.size fun b o hlt hr => IntsAt.keep hb _ b o hlt hr)
    rw [eqM_refl]
    clear hb
    clear c00 c01 c02 c03 c04 c10 c11 c12 c13 c14
    have hnd := nd_put q path t r HAT.out
    have hn1 := termB_nd HTB.out; have hn2 := termB_nd HPB.out; have hn3 := termB_nd HRB.out; have hn4 := termB_nd HQB.out
    generalize ndM (putM t path q) = n2 at *
    generalize ndM t = n1 at *
    generalize ndM r = n3 at *
    generalize ndM q = n4 at *
    have hw1 : IntKind.i64.wrap ((n1 : Int) - (n3 : Int)) = (n1 : Int) - (n3 : Int) := by rw [IntKind.wrap_i64]; omega
    have hw2 : IntKind.i64.wrap ((n1 : Int) - (n3 : Int) + (n4 : Int)) = (n2 : Int) := by rw [IntKind.wrap_i64]; omega
    go_wp2_with fail
    refine (known_any _).mono ?_
    rintro e wk ⟨rfl, hb⟩
    replace HV := Lib.hid (HV.out.trans (hb.mono HV.out.size))
    clear hb
    go_wp2
    go_ret
    exact ⟨rfl, HV.out⟩

end Go.Proofs.YtjpahjfjpkbcnaaGreat

/- TermPut is true for every term, path and part, and changes them in nothing. No condition. -/
namespace Go.Proofs.YtjpahjfjpkbcnaaGreat
open Go.ChangeShapes Go.WideShapes Go.ChangeAt Go.RowKit
open Go.ChangeMaps (open_string shut_string)

set_option maxRecDepth 100000 in
theorem termPut_lifted (os : Os) (started : os.Started) (H : Type) (enc : TypeId × Value → H) :
    ReturnsInHanded {} Tryz.checked os 7 .any (Rows.termPutSpec.pre6 enc Tryz.prog Tryz.f7 Rows.termPutRow.domain false) (Rows.termPutSpec.post enc Tryz.prog Tryz.f7 false true false false) := by
  refine returnsInHanded_of_change (C := Tryz.checked) Tryz.own started (by kernel_rfl) Tryz.func7
    (ChangeSpec.witness6 (enc := enc) (C := Tryz.checked) false ⟨#[], #[.agg #[.int .i64 0, .int .i64 0, .string ⟨#[]⟩, .slice none 0 0, .slice none 0 0], .slice none 0 0, .agg #[.int .i64 0, .int .i64 0, .string ⟨#[]⟩, .slice none 0 0, .slice none 0 0]], []⟩ 8 (by kernel_rfl) (by kernel_rfl) (by kernel_rfl) (by kernel_rfl)) ?_
  intro W base args ds gs before hval0 hW hcnd _
  have hval : ∀ (j : Nat) t v, Tryz.f7.params[j]? = some t → args[j]? = some v → Value.okWide Tryz.prog W .any base t v := hval0
  have hW' := hW
  obtain ⟨p, q, hA0, hV, rfl, hfz, hnd⟩ := hW
  have hA : DataW.TrodAll enc Tryz.prog W 0 (fun _ => true) true Tryz.f7.params.toList args.toList ds p := hA0
  rw [Tryz.params7] at hA hval
  obtain ⟨v0, v1, v2, d0, d1, d2, p0, p1, p2, rfl, rfl, rfl, h0, h1, h2⟩ := trodAll_three hA
  obtain ⟨rfl, rfl⟩ := trodVars_none hV
  have h0k := h0
  have h1k := h1
  have h2k := h2
  obtain ⟨T0, hT0⟩ := open_tm (hval 0 32 v0 rfl rfl) h0
  obtain ⟨l1, hl1⟩ := open_ns (hval 1 59 v1 rfl rfl) h1
  obtain ⟨T2, hT2⟩ := open_tm (hval 2 32 v2 rfl rfl) h2
  clear hA0 hval0
  simp only [List.append_nil] at hW'
  have hlt : ∀ x ∈ p0 ++ p1 ++ p2, x.block < W.heap.size := fun x hx => by simpa using hW'.lt x hx
  refine (put7_any T0 l1 T2 v0 v1 v2 W hT0 hl1 hT2).mono fun e W' ⟨he, hnx⟩ => ?_
  subst he
  refine ⟨_, rfl, _, _, _, [] ++ [], p0 ++ p1 ++ p2, [], hW', ?_, ?_, rfl, hnx.frame _, fun h => by cases h⟩
  · exact trodAll_mk1 (shut_bool Tryz.underlying4 true)
  · have e := trodAll_mk3 (Below.trod Tryz.laidOut (by kernel_rfl) (of_decide_eq_true (by kernel_rfl)) h0k hnx (fun x hx => hlt x (List.mem_append_left _ (List.mem_append_left _ hx)))) (Below.trod Tryz.laidOut (by kernel_rfl) (of_decide_eq_true (by kernel_rfl)) h1k hnx (fun x hx => hlt x (List.mem_append_left _ (List.mem_append_right _ hx)))) (Below.trod Tryz.laidOut (by kernel_rfl) (of_decide_eq_true (by kernel_rfl)) h2k hnx (fun x hx => hlt x (List.mem_append_right _ hx)))
    simp only [← List.append_assoc] at e
    exact e

theorem termPut_holds : Rows.TermPutSaid :=
  OpenClaim.holds_of_wide 7 Tryz.f7 rfl rfl rfl rfl rfl rfl rfl ⟨rfl, rfl, rfl, rfl, rfl⟩ rfl rfl rfl rfl rfl (by kernel_rfl) Tryz.func7 (by kernel_rfl)
    (of_decide_eq_true (by kernel_rfl)) (by unfold Func.isWrapper; first | (rw [if_pos (by decide +kernel)]; kernel_rfl) | (rw [if_neg (by decide +kernel)]; exact ⟨rfl, rfl⟩))
    (fun os started H enc _ => termPut_lifted os started H enc)

end Go.Proofs.YtjpahjfjpkbcnaaGreat
