/- What is listed behind the head of a list of laid variables is laid too. No conditions. -/
import GoSem.ClaimJoined
import Derived.JoinedTies
import Derived.Lib.LaidTab
namespace Go.Proofs.YtocdpgogoadfnaaDoor

theorem laidMet_tail {P : Program} {x : String × DataW Unit} {r : List (String × DataW Unit)} {W : World} (h : laidMet P (x :: r) W) : laidMet P r W := by
  obtain ⟨n, d⟩ := x
  obtain ⟨ps, ⟨g, t, cs, f, p, q, _, _, _, _, hr, e⟩, hn, hm⟩ := h
  subst e
  exact ⟨q, hr, (List.nodup_append.1 hn).2.1, fun b o hb => hm b o (List.mem_append_right _ hb)⟩
end Go.Proofs.YtocdpgogoadfnaaDoor
