import Derived.Test.YtbjidpooociamaaDoorFormsCard
namespace Go.Proofs.YtbjidpooociamaaDoor
theorem limbsForms_card : Rows.LimbsFormsCardSaid := limbsForms.card
#print axioms limbsForms_card
end Go.Proofs.YtbjidpooociamaaDoor
